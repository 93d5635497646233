import Derived.Test.YtlcfpnegpihicaaGreatDoorPw20
import Derived.Test.YtlcfpnegpihicaaGreatDoorPw19
namespace Go.Proofs.YtlcfpnegpihicaaGreatDoor
open Go.RowKit Go.Shelf
attribute [local go_sem] Oper.semAt_some

/-! ## The document's parser in memory; its New -/
def rpC (A : Option Addr) (n c l m : Nat) (line : List UInt8) (any half : Bool) (r : RfS) : Array Value := #[.slice A n c, .int .i64 (l : Int), .string ⟨line.toArray⟩, .bool any, .bool half, .int .i64 (m : Int), .string ⟨r.id.toArray⟩, .string ⟨r.type.toArray⟩, .string ⟨r.data.toArray⟩, .bool r.some, .bool r.long]
set_option maxRecDepth 100000 in
set_option maxHeartbeats 1000000 in
theorem refNewPs_yes (l m : Nat) (w : World) (h1 : 1 ≤ l) (h2 : l ≤ 65536) (h3 : 1 ≤ m) (h4 : m ≤ 65536) : Calls Tryz.prog 13 #[.int .i64 (l : Int), .int .i64 (m : Int)] w fun e w' => e = .returned (.tuple #[.agg (rpC none 0 0 l m [] false false (rfNew [])), .int .i64 0]) ∧ Below w.heap.size w w' := by
  have hb1 : Below w.heap.size w (w.alloc (.cells #[.slice none 0 0, .int .i64 0, .string ⟨#[]⟩, .bool false, .bool false, .int .i64 0, .string ⟨#[]⟩, .string ⟨#[]⟩, .string ⟨#[]⟩, .bool false, .bool false] 51)) := (Below.refl _ _).alloc (Nat.le_refl _) _
  have kP := Has.new w 51 #[.slice none 0 0, .int .i64 0, .string ⟨#[]⟩, .bool false, .bool false, .int .i64 0, .string ⟨#[]⟩, .string ⟨#[]⟩, .string ⟨#[]⟩, .bool false, .bool false]
  have hn := Lib.hid (refNewL_yes l (w.alloc (.cells #[.slice none 0 0, .int .i64 0, .string ⟨#[]⟩, .bool false, .bool false, .int .i64 0, .string ⟨#[]⟩, .string ⟨#[]⟩, .string ⟨#[]⟩, .bool false, .bool false] 51)) h1 h2)
  have hb1' := Lib.hid hb1
  have kP' := Lib.hid kP
  have hi1 : ¬ (m : Int) < 1 := by omega
  have hi2 : ¬ (65536 : Int) < (m : Int) := by omega
  clear hb1 kP
  go_enter Tryz.func13, Tryz.ntmps13
  go_wp2_with ((go_at_call 28; (with_reducible refine Calls.mono hn.out ?_); rintro e w2 ⟨rfl, hb2⟩; have kP2 := (kP'.out.below hb2 kP'.out.lt).alloc (.cells #[.slice none 0 0, .int .i64 (l : Int), .string ⟨#[]⟩, .bool false, .bool false] 49); have y0 := kP2.cell 0; have z0 := kP2.free 0; have y1 := kP2.cell 1; have z1 := kP2.free 1; have y2 := kP2.cell 2; have z2 := kP2.free 2; have y3 := kP2.cell 3; have z3 := kP2.free 3; have y4 := kP2.cell 4; have z4 := kP2.free 4; have y5 := kP2.cell 5; have z5 := kP2.free 5; have y6 := kP2.cell 6; have z6 := kP2.free 6; have y7 := kP2.cell 7; have z7 := kP2.free 7; have y8 := kP2.cell 8; have z8 := kP2.free 8; have y9 := kP2.cell 9; have z9 := kP2.free 9; have y10 := kP2.cell 10; have z10 := kP2.free 10; have kP2' := Lib.hid kP2; have hb2' := Lib.hid hb2; clear kP2 hb2))
  clear y0 z0 y1 z1 y2 z2 y3 z3 y4 z4 y5 z5 y6 z6 y7 z7 y8 z8 y9 z9 y10 z10
  have kE := (((((((((((kP2'.out).put 0 (.slice none 0 0)).put 1 (.int .i64 (l : Int))).put 2 (.string ⟨#[]⟩)).put 3 (.bool false)).put 4 (.bool false)).put 5 (.int .i64 (m : Int))).put 6 (.string ⟨#[]⟩)).put 7 (.string ⟨#[]⟩)).put 8 (.string ⟨#[]⟩)).put 9 (.bool false)).put 10 (.bool false)
  have x0 := kE.cell 0
  have x1 := kE.cell 1
  have x2 := kE.cell 2
  have x3 := kE.cell 3
  have x4 := kE.cell 4
  have x5 := kE.cell 5
  have x6 := kE.cell 6
  have x7 := kE.cell 7
  have x8 := kE.cell 8
  have x9 := kE.cell 9
  have x10 := kE.cell 10
  have hbw : Below w.heap.size w (w2.alloc (.cells #[.slice none 0 0, .int .i64 (l : Int), .string ⟨#[]⟩, .bool false, .bool false] 49)) := (hb1'.out.trans (hb2'.out.mono hb1'.out.size)).alloc (Nat.le_trans hb1'.out.size hb2'.out.size) _
  refine bodyPost_ret (v := .tuple #[.agg #[.slice none 0 0, .int .i64 (l : Int), .string ⟨#[]⟩, .bool false, .bool false, .int .i64 (m : Int), .string ⟨#[]⟩, .string ⟨#[]⟩, .string ⟨#[]⟩, .bool false, .bool false], .int .i64 0]) (by simp [results, Tryz.results13, go_sem, x0, x1, x2, x3, x4, x5, x6, x7, x8, x9, x10]) rfl ⟨rfl, ?_⟩
  exact (((((((((((hbw).setCell (Nat.le_refl _) _).setCell (Nat.le_refl _) _).setCell (Nat.le_refl _) _).setCell (Nat.le_refl _) _).setCell (Nat.le_refl _) _).setCell (Nat.le_refl _) _).setCell (Nat.le_refl _) _).setCell (Nat.le_refl _) _).setCell (Nat.le_refl _) _).setCell (Nat.le_refl _) _).setCell (Nat.le_refl _) _
set_option maxRecDepth 100000 in
set_option maxHeartbeats 1000000 in
theorem refNewPs_line (z1 z2 : Int) (w : World) (h : z1 < 1 ∨ 65536 < z1) : Calls Tryz.prog 13 #[.int .i64 z1, .int .i64 z2] w fun e w' => e = .returned (.tuple #[.agg (rpC none 0 0 0 0 [] false false (rfNew [])), .int .i64 2]) ∧ Below w.heap.size w w' := by
  have hb1 : Below w.heap.size w (w.alloc (.cells #[.slice none 0 0, .int .i64 0, .string ⟨#[]⟩, .bool false, .bool false, .int .i64 0, .string ⟨#[]⟩, .string ⟨#[]⟩, .string ⟨#[]⟩, .bool false, .bool false] 51)) := (Below.refl _ _).alloc (Nat.le_refl _) _
  have kP := Has.new w 51 #[.slice none 0 0, .int .i64 0, .string ⟨#[]⟩, .bool false, .bool false, .int .i64 0, .string ⟨#[]⟩, .string ⟨#[]⟩, .string ⟨#[]⟩, .bool false, .bool false]
  have hn := Lib.hid (refNewL_no z1 (w.alloc (.cells #[.slice none 0 0, .int .i64 0, .string ⟨#[]⟩, .bool false, .bool false, .int .i64 0, .string ⟨#[]⟩, .string ⟨#[]⟩, .string ⟨#[]⟩, .bool false, .bool false] 51)) h)
  have hb1' := Lib.hid hb1
  have kP' := Lib.hid kP
  clear hb1 kP
  go_enter Tryz.func13, Tryz.ntmps13
  go_wp2_with ((go_at_call 28; (with_reducible refine Calls.mono hn.out ?_); rintro e w2 ⟨rfl, hb2⟩; have kP2 := (kP'.out.below hb2 kP'.out.lt).alloc (.cells #[.slice none 0 0, .int .i64 0, .string ⟨#[]⟩, .bool false, .bool false] 49); have y0 := kP2.cell 0; have z0 := kP2.free 0; have y1 := kP2.cell 1; have z1 := kP2.free 1; have y2 := kP2.cell 2; have z2 := kP2.free 2; have y3 := kP2.cell 3; have z3 := kP2.free 3; have y4 := kP2.cell 4; have z4 := kP2.free 4; have y5 := kP2.cell 5; have z5 := kP2.free 5; have y6 := kP2.cell 6; have z6 := kP2.free 6; have y7 := kP2.cell 7; have z7 := kP2.free 7; have y8 := kP2.cell 8; have z8 := kP2.free 8; have y9 := kP2.cell 9; have z9 := kP2.free 9; have y10 := kP2.cell 10; have z10 := kP2.free 10; have kP2' := Lib.hid kP2; have hb2' := Lib.hid hb2; clear kP2 hb2))
  clear y0 z0 y1 z1 y2 z2 y3 z3 y4 z4 y5 z5 y6 z6 y7 z7 y8 z8 y9 z9 y10 z10
  have kE := (((((((((((kP2'.out).put 0 (.slice none 0 0)).put 1 (.int .i64 0)).put 2 (.string ⟨#[]⟩)).put 3 (.bool false)).put 4 (.bool false)).put 5 (.int .i64 0)).put 6 (.string ⟨#[]⟩)).put 7 (.string ⟨#[]⟩)).put 8 (.string ⟨#[]⟩)).put 9 (.bool false)).put 10 (.bool false)
  have x0 := kE.cell 0
  have x1 := kE.cell 1
  have x2 := kE.cell 2
  have x3 := kE.cell 3
  have x4 := kE.cell 4
  have x5 := kE.cell 5
  have x6 := kE.cell 6
  have x7 := kE.cell 7
  have x8 := kE.cell 8
  have x9 := kE.cell 9
  have x10 := kE.cell 10
  have hbw : Below w.heap.size w (w2.alloc (.cells #[.slice none 0 0, .int .i64 0, .string ⟨#[]⟩, .bool false, .bool false] 49)) := (hb1'.out.trans (hb2'.out.mono hb1'.out.size)).alloc (Nat.le_trans hb1'.out.size hb2'.out.size) _
  refine bodyPost_ret (v := .tuple #[.agg #[.slice none 0 0, .int .i64 0, .string ⟨#[]⟩, .bool false, .bool false, .int .i64 0, .string ⟨#[]⟩, .string ⟨#[]⟩, .string ⟨#[]⟩, .bool false, .bool false], .int .i64 2]) (by simp [results, Tryz.results13, go_sem, x0, x1, x2, x3, x4, x5, x6, x7, x8, x9, x10]) rfl ⟨rfl, ?_⟩
  exact (((((((((((hbw).setCell (Nat.le_refl _) _).setCell (Nat.le_refl _) _).setCell (Nat.le_refl _) _).setCell (Nat.le_refl _) _).setCell (Nat.le_refl _) _).setCell (Nat.le_refl _) _).setCell (Nat.le_refl _) _).setCell (Nat.le_refl _) _).setCell (Nat.le_refl _) _).setCell (Nat.le_refl _) _).setCell (Nat.le_refl _) _
set_option maxRecDepth 100000 in
set_option maxHeartbeats 1000000 in
theorem refNewPs_low (l : Nat) (z2 : Int) (w : World) (h1 : 1 ≤ l) (h2 : l ≤ 65536) (h : z2 < 1) : Calls Tryz.prog 13 #[.int .i64 (l : Int), .int .i64 z2] w fun e w' => e = .returned (.tuple #[.agg (rpC none 0 0 0 0 [] false false (rfNew [])), .int .i64 2]) ∧ Below w.heap.size w w' := by
  have hb1 : Below w.heap.size w (w.alloc (.cells #[.slice none 0 0, .int .i64 0, .string ⟨#[]⟩, .bool false, .bool false, .int .i64 0, .string ⟨#[]⟩, .string ⟨#[]⟩, .string ⟨#[]⟩, .bool false, .bool false] 51)) := (Below.refl _ _).alloc (Nat.le_refl _) _
  have kP := Has.new w 51 #[.slice none 0 0, .int .i64 0, .string ⟨#[]⟩, .bool false, .bool false, .int .i64 0, .string ⟨#[]⟩, .string ⟨#[]⟩, .string ⟨#[]⟩, .bool false, .bool false]
  have hn := Lib.hid (refNewL_yes l (w.alloc (.cells #[.slice none 0 0, .int .i64 0, .string ⟨#[]⟩, .bool false, .bool false, .int .i64 0, .string ⟨#[]⟩, .string ⟨#[]⟩, .string ⟨#[]⟩, .bool false, .bool false] 51)) h1 h2)
  have hb1' := Lib.hid hb1
  have kP' := Lib.hid kP
  clear hb1 kP
  go_enter Tryz.func13, Tryz.ntmps13
  go_wp2_with ((go_at_call 28; (with_reducible refine Calls.mono hn.out ?_); rintro e w2 ⟨rfl, hb2⟩; have kP2 := (kP'.out.below hb2 kP'.out.lt).alloc (.cells #[.slice none 0 0, .int .i64 (l : Int), .string ⟨#[]⟩, .bool false, .bool false] 49); have y0 := kP2.cell 0; have z0 := kP2.free 0; have y1 := kP2.cell 1; have z1 := kP2.free 1; have y2 := kP2.cell 2; have z2 := kP2.free 2; have y3 := kP2.cell 3; have z3 := kP2.free 3; have y4 := kP2.cell 4; have z4 := kP2.free 4; have y5 := kP2.cell 5; have z5 := kP2.free 5; have y6 := kP2.cell 6; have z6 := kP2.free 6; have y7 := kP2.cell 7; have z7 := kP2.free 7; have y8 := kP2.cell 8; have z8 := kP2.free 8; have y9 := kP2.cell 9; have z9 := kP2.free 9; have y10 := kP2.cell 10; have z10 := kP2.free 10; have kP2' := Lib.hid kP2; have hb2' := Lib.hid hb2; clear kP2 hb2))
  clear y0 z0 y1 z1 y2 z2 y3 z3 y4 z4 y5 z5 y6 z6 y7 z7 y8 z8 y9 z9 y10 z10
  have kE := (((((((((((kP2'.out).put 0 (.slice none 0 0)).put 1 (.int .i64 0)).put 2 (.string ⟨#[]⟩)).put 3 (.bool false)).put 4 (.bool false)).put 5 (.int .i64 0)).put 6 (.string ⟨#[]⟩)).put 7 (.string ⟨#[]⟩)).put 8 (.string ⟨#[]⟩)).put 9 (.bool false)).put 10 (.bool false)
  have x0 := kE.cell 0
  have x1 := kE.cell 1
  have x2 := kE.cell 2
  have x3 := kE.cell 3
  have x4 := kE.cell 4
  have x5 := kE.cell 5
  have x6 := kE.cell 6
  have x7 := kE.cell 7
  have x8 := kE.cell 8
  have x9 := kE.cell 9
  have x10 := kE.cell 10
  have hbw : Below w.heap.size w (w2.alloc (.cells #[.slice none 0 0, .int .i64 (l : Int), .string ⟨#[]⟩, .bool false, .bool false] 49)) := (hb1'.out.trans (hb2'.out.mono hb1'.out.size)).alloc (Nat.le_trans hb1'.out.size hb2'.out.size) _
  refine bodyPost_ret (v := .tuple #[.agg #[.slice none 0 0, .int .i64 0, .string ⟨#[]⟩, .bool false, .bool false, .int .i64 0, .string ⟨#[]⟩, .string ⟨#[]⟩, .string ⟨#[]⟩, .bool false, .bool false], .int .i64 2]) (by simp [results, Tryz.results13, go_sem, x0, x1, x2, x3, x4, x5, x6, x7, x8, x9, x10]) rfl ⟨rfl, ?_⟩
  exact (((((((((((hbw).setCell (Nat.le_refl _) _).setCell (Nat.le_refl _) _).setCell (Nat.le_refl _) _).setCell (Nat.le_refl _) _).setCell (Nat.le_refl _) _).setCell (Nat.le_refl _) _).setCell (Nat.le_refl _) _).setCell (Nat.le_refl _) _).setCell (Nat.le_refl _) _).setCell (Nat.le_refl _) _).setCell (Nat.le_refl _) _
set_option maxRecDepth 100000 in
set_option maxHeartbeats 1000000 in
theorem refNewPs_high (l : Nat) (z2 : Int) (w : World) (h1 : 1 ≤ l) (h2 : l ≤ 65536) (hx : ¬ z2 < 1) (h : 65536 < z2) : Calls Tryz.prog 13 #[.int .i64 (l : Int), .int .i64 z2] w fun e w' => e = .returned (.tuple #[.agg (rpC none 0 0 0 0 [] false false (rfNew [])), .int .i64 2]) ∧ Below w.heap.size w w' := by
  have hb1 : Below w.heap.size w (w.alloc (.cells #[.slice none 0 0, .int .i64 0, .string ⟨#[]⟩, .bool false, .bool false, .int .i64 0, .string ⟨#[]⟩, .string ⟨#[]⟩, .string ⟨#[]⟩, .bool false, .bool false] 51)) := (Below.refl _ _).alloc (Nat.le_refl _) _
  have kP := Has.new w 51 #[.slice none 0 0, .int .i64 0, .string ⟨#[]⟩, .bool false, .bool false, .int .i64 0, .string ⟨#[]⟩, .string ⟨#[]⟩, .string ⟨#[]⟩, .bool false, .bool false]
  have hn := Lib.hid (refNewL_yes l (w.alloc (.cells #[.slice none 0 0, .int .i64 0, .string ⟨#[]⟩, .bool false, .bool false, .int .i64 0, .string ⟨#[]⟩, .string ⟨#[]⟩, .string ⟨#[]⟩, .bool false, .bool false] 51)) h1 h2)
  have hb1' := Lib.hid hb1
  have kP' := Lib.hid kP
  clear hb1 kP
  go_enter Tryz.func13, Tryz.ntmps13
  go_wp2_with ((go_at_call 28; (with_reducible refine Calls.mono hn.out ?_); rintro e w2 ⟨rfl, hb2⟩; have kP2 := (kP'.out.below hb2 kP'.out.lt).alloc (.cells #[.slice none 0 0, .int .i64 (l : Int), .string ⟨#[]⟩, .bool false, .bool false] 49); have y0 := kP2.cell 0; have z0 := kP2.free 0; have y1 := kP2.cell 1; have z1 := kP2.free 1; have y2 := kP2.cell 2; have z2 := kP2.free 2; have y3 := kP2.cell 3; have z3 := kP2.free 3; have y4 := kP2.cell 4; have z4 := kP2.free 4; have y5 := kP2.cell 5; have z5 := kP2.free 5; have y6 := kP2.cell 6; have z6 := kP2.free 6; have y7 := kP2.cell 7; have z7 := kP2.free 7; have y8 := kP2.cell 8; have z8 := kP2.free 8; have y9 := kP2.cell 9; have z9 := kP2.free 9; have y10 := kP2.cell 10; have z10 := kP2.free 10; have kP2' := Lib.hid kP2; have hb2' := Lib.hid hb2; clear kP2 hb2))
  clear y0 z0 y1 z1 y2 z2 y3 z3 y4 z4 y5 z5 y6 z6 y7 z7 y8 z8 y9 z9 y10 z10
  have kE := (((((((((((kP2'.out).put 0 (.slice none 0 0)).put 1 (.int .i64 0)).put 2 (.string ⟨#[]⟩)).put 3 (.bool false)).put 4 (.bool false)).put 5 (.int .i64 0)).put 6 (.string ⟨#[]⟩)).put 7 (.string ⟨#[]⟩)).put 8 (.string ⟨#[]⟩)).put 9 (.bool false)).put 10 (.bool false)
  have x0 := kE.cell 0
  have x1 := kE.cell 1
  have x2 := kE.cell 2
  have x3 := kE.cell 3
  have x4 := kE.cell 4
  have x5 := kE.cell 5
  have x6 := kE.cell 6
  have x7 := kE.cell 7
  have x8 := kE.cell 8
  have x9 := kE.cell 9
  have x10 := kE.cell 10
  have hbw : Below w.heap.size w (w2.alloc (.cells #[.slice none 0 0, .int .i64 (l : Int), .string ⟨#[]⟩, .bool false, .bool false] 49)) := (hb1'.out.trans (hb2'.out.mono hb1'.out.size)).alloc (Nat.le_trans hb1'.out.size hb2'.out.size) _
  refine bodyPost_ret (v := .tuple #[.agg #[.slice none 0 0, .int .i64 0, .string ⟨#[]⟩, .bool false, .bool false, .int .i64 0, .string ⟨#[]⟩, .string ⟨#[]⟩, .string ⟨#[]⟩, .bool false, .bool false], .int .i64 2]) (by simp [results, Tryz.results13, go_sem, x0, x1, x2, x3, x4, x5, x6, x7, x8, x9, x10]) rfl ⟨rfl, ?_⟩
  exact (((((((((((hbw).setCell (Nat.le_refl _) _).setCell (Nat.le_refl _) _).setCell (Nat.le_refl _) _).setCell (Nat.le_refl _) _).setCell (Nat.le_refl _) _).setCell (Nat.le_refl _) _).setCell (Nat.le_refl _) _).setCell (Nat.le_refl _) _).setCell (Nat.le_refl _) _).setCell (Nat.le_refl _) _).setCell (Nat.le_refl _) _
theorem refNewPs_no (z1 z2 : Int) (w : World) (h : (z1 < 1 ∨ 65536 < z1) ∨ (z2 < 1 ∨ 65536 < z2)) : Calls Tryz.prog 13 #[.int .i64 z1, .int .i64 z2] w fun e w' => e = .returned (.tuple #[.agg (rpC none 0 0 0 0 [] false false (rfNew [])), .int .i64 2]) ∧ Below w.heap.size w w' := by
  by_cases h1 : z1 < 1 ∨ 65536 < z1
  · exact refNewPs_line z1 z2 w h1
  · obtain ⟨l, rfl⟩ : ∃ l : Nat, z1 = (l : Int) := ⟨z1.toNat, by omega⟩
    by_cases h2 : z2 < 1
    · exact refNewPs_low l z2 w (by omega) (by omega) h2
    · exact refNewPs_high l z2 w (by omega) (by omega) h2 (by omega)
end Go.Proofs.YtlcfpnegpihicaaGreatDoor

namespace Go.Proofs.YtlcfpnegpihicaaGreatDoor
open Go.RowKit Go.Shelf
attribute [local go_sem] Oper.semAt_some
attribute [local go_sem] wide_fn wide_depth wide_round

/-! ## Chunk of few bytes: one piece, or none -/
def encC (A : Option Addr) (n : Nat) (_ : Unit) : Array Value := #[.slice A n n]
set_option maxRecDepth 100000 in
set_option maxHeartbeats 2000000 in
theorem chunk1_in (n : Nat) (hn : 1 ≤ n) (A : Option Addr) (m c l B1 B2 : Nat) (hm : m ≤ 4096) (hmc : m ≤ c) (hc : c ≤ 9223372036854775807) (hA : 0 < m → ∃ ad, A = some ad) (J Jx : List Unit → World → Prop)
    (hJd : ∀ ys V q, J ys V → J ys (V.drewN q))
    (hY : ∀ pre y W, J pre W → pre.length < 1 → YieldAt Fence.wide (n - 1) Tryz.prog l (encC A m y) W fun e W' =>
      (e = .returned (.bool true) ∧ J (pre ++ [y]) W' ∧ Kept (fun k => k = B1 ∨ k = B2) W W') ∨ (e = .returned (.bool false) ∧ Jx (pre ++ [y]) W'))
    (W : World) (k1 : Has W B1 22 #[.slice A m c]) (k2 : Has W B2 3 #[.int .i64 4096]) (h0 : J [] W) :
    CallsIn Fence.wide n Tryz.prog 58 #[.func (.yield l) #[] #[], .pointer (some ⟨B1, 0, none⟩), .pointer (some ⟨B2, 0, none⟩)] W fun e W' => (∃ v, e = .returned v) ∧
      ((∃ ys, ys.length = (if m = 0 then 0 else 1) ∧ J ys W') ∨ (∃ pre, pre.length = 1 ∧ Jx pre W')) := by
  refine callsIn_of_wp Tryz.func58 rfl trivial ?_ rfl
  simp only [Tryz.ntmps58, List.size_toArray, List.length_cons, List.length_nil, Nat.reduceAdd, Nat.reduceSub, Array.replicate_succ, Array.replicate_zero, List.push_toArray, List.append_toArray, List.nil_append, List.cons_append]
  have k1' := Lib.hid k1
  have k2' := Lib.hid k2
  have hY' := Lib.hid hY
  have hJd' := Lib.hid hJd
  clear hY hJd
  gi_wp2
  gi_loopw [4] (fun x wr => ∃ ys : List Unit, ((x = .int .i64 ((0 : Nat) : Int) ∧ ys = []) ∨ (x = .int .i64 ((4096 : Nat) : Int) ∧ ys.length = 1 ∧ 0 < m)) ∧ J ys wr ∧ Has wr B1 22 #[.slice A m c] ∧ Has wr B2 3 #[.int .i64 4096]) (fun x _ => 4096 - (intOf x).toNat)
  case atStart => exact ⟨[], .inl ⟨rfl, rfl⟩, h0, k1, k2⟩
  case round =>
    obtain ⟨ys, hx, hJs, g1, g2⟩ := hrel
    have c1 := g1.cell 0
    have c2 := g2.cell 0
    clear k1 k2
    rcases hx with ⟨rfl, rfl⟩ | ⟨rfl, hy1, hm0⟩
    · by_cases hm0 : 0 < m
      · have hmI : (0 : Int) < (m : Int) := by omega
        obtain ⟨ad, rfl⟩ := hA hm0
        have hi2 : (m : Int) ≤ (c : Int) := by omega
        have hmin : min (4096 : Int) (m : Int) = (m : Int) := by omega
        gi_wp2_with fail
        gi_quiet (fail)
        have h0m : ¬ m = 0 := by omega
        obtain ⟨fn, tmps, assign, body, hy, hR⟩ := hY'.out [] () (wr.drewN nq) (hJd'.out _ _ nq hJs) (by simp)
        have hy' : (Instr.yield l #[.slice (some ad) m m]).run Tryz.prog (wr.drewN nq) = .ok (Next.round l fn tmps assign body) (wr.drewN nq) := hy
        have hR' := Lib.hid hR
        have q1 := g1.drewN nq
        have q2 := g2.drewN nq
        have c1 := q1.cell 0
        have c2 := q2.cell 0
        have q1' := Lib.hid q1
        have q2' := Lib.hid q2
        clear hy hR hJs g1 g2 q1 q2 h0
        gi_wp2
        refine hR'.out.mono ?_
        rintro e W3 (⟨rfl, hJ3, hk3⟩ | ⟨rfl, hJx3⟩)
        · have r1 := hk3.has (.inl rfl) q1'.out
          have r2 := hk3.has (.inr rfl) q2'.out
          have c1 := r1.cell 0
          have c2 := r2.cell 0
          have hJ4 := Lib.hid hJ3
          have r1' := Lib.hid r1
          have r2' := Lib.hid r2
          clear hJ3 hk3 r1 r2
          gi_wp2
          exact ⟨⟨[()], .inr ⟨rfl, rfl, hm0⟩, hJ4.out, r1'.out, r2'.out⟩, by simp [intOf]⟩
        · have hJ4 := Lib.hid hJx3
          clear hJx3
          gi_wp2
          refine bodyPost_ret (results_none rfl _ _ _) rfl ?_
          exact ⟨⟨_, rfl⟩, .inr ⟨[()], rfl, hJ4.out⟩⟩
      · have hmI : ¬ (0 : Int) < (m : Int) := by omega
        have h0m : m = 0 := by omega
        gi_wp2
        go_end0
        exact ⟨⟨_, rfl⟩, .inl hJs⟩
    · have hmI : ¬ ((4096 : Nat) : Int) < (m : Int) := by omega
      have h0m : ¬ m = 0 := by omega
      gi_wp2
      go_end0
      exact ⟨⟨_, rfl⟩, .inl ⟨ys, by simp [h0m, hy1], hJs⟩⟩
theorem chunk1_stops (n : Nat) (hn : 1 ≤ n) (A : Option Addr) (m c B1 B2 : Nat) (hm : m ≤ 4096) (hmc : m ≤ c) (hc : c ≤ 9223372036854775807) (hA : 0 < m → ∃ ad, A = some ad) (w : World) (k1 : Has w B1 22 #[.slice A m c]) (k2 : Has w B2 3 #[.int .i64 4096]) :
    SeqStopsK Fence.wide n Tryz.prog 58 #[.pointer (some ⟨B1, 0, none⟩), .pointer (some ⟨B2, 0, none⟩)] (encC A m) (Kept (fun k => k = B1 ∨ k = B2)) (fun ys => ys.length = (if m = 0 then 0 else 1)) (fun pre => pre.length = 1) 1 w := fun l J Jx W hW hA2 _ hY h0 =>
  chunk1_in n hn A m c l B1 B2 hm hmc hc hA J Jx (fun ys V q h => hA2 ys V _ none h ⟨rfl, rfl, rfl, Nat.le_refl _, fun _ _ _ => rfl⟩ (fun r e => by cases e)) hY W (k1.below hW k1.lt) (k2.below hW k2.lt) h0
end Go.Proofs.YtlcfpnegpihicaaGreatDoor

namespace Go.Proofs.YtlcfpnegpihicaaGreatDoor
open Go.RowKit Go.Shelf
attribute [local go_sem] Oper.semAt_some
attribute [local go_sem] wide_fn wide_depth wide_round

/-! ## Pieces, collected -/
/-- What is collected so far, in box k: nothing, or the one piece. -/
def Got (n0 k : Nat) (A : Option Addr) (m : Nat) (xs : List Unit) (V : World) : Prop :=
  (xs = [] ∧ Has V k 76 #[.slice none 0 0]) ∨ (xs = [()] ∧ ∃ g c2 cs, Has V k 76 #[.slice (some ⟨g, 0, none⟩) 1 c2] ∧ n0 ≤ g ∧ Has V g 22 cs ∧ cs[0]? = some (.slice A m m))
theorem Got.keeps {n0 k m : Nat} {A : Option Addr} {xs : List Unit} {X Y : World} (h : Got n0 k A m xs X) (hk : ∀ j t cs, Has X j t cs → Has Y j t cs) : Got n0 k A m xs Y := by
  rcases h with ⟨h1, h2⟩ | ⟨h1, g, c2, cs, h2, h3, h4, h5⟩
  · exact .inl ⟨h1, hk _ _ _ h2⟩
  · exact .inr ⟨h1, g, c2, cs, hk _ _ _ h2, h3, hk _ _ _ h4, h5⟩
def AppR (A : Option Addr) (m : Nat) (w : World) (e : Ending) (w' : World) : Prop :=
  Below w.heap.size w w' ∧ ((m = 0 ∧ e = .returned (.slice none 0 0)) ∨ (0 < m ∧ ∃ g c2 cs, e = .returned (.slice (some ⟨g, 0, none⟩) 1 c2) ∧ w.heap.size ≤ g ∧ Has w' g 22 cs ∧ cs[0]? = some (.slice A m m)))
theorem grown_has {X Y : World} {row : Option Nat} (hg : X.grownBy Y row) (hr : ∀ r, row = some r → ∃ o : Obj, X.heap[r]? = some o ∧ o.isCells = false) {j : Nat} {t : TypeId} {cs : Array Value} (h : Has X j t cs) : Has Y j t cs :=
  (hg.block j h.lt (fun e => by
    obtain ⟨o, ho, hc⟩ := hr j e.symm
    have h' : X.heap[j]? = some (.cells cs t (0, 0)) := h
    rw [ho] at h'
    rw [Option.some.inj h'] at hc
    cases hc)).trans h
theorem wpListIn_append_piece {F : Fence} {d : Nat} {w : World} {ops : Array Oper} {rest : List Oper} {o : Oper} {a : Act} {Q : Exit → Act → World → Prop} (hgd : o.guard = none) (s x : Operand) (ho : o.op = .call { callee := .builtin .append, args := #[s, x], argTypes := #[76, 76] }) (hsv : a.eval s = .slice none 0 0)
    (k : Nat) (A : Option Addr) (n c : Nat) (hxv : a.eval x = .slice (some ⟨k, 0, none⟩) 1 1) (hx : Has w k 22 #[.slice A n c])
    (h : ∀ (g c2 : Nat) (cs : Array Value) w', w.heap.size ≤ g → Has w' g 22 cs → cs[0]? = some (.slice A n c) → Below w.heap.size w w' → wpListIn F d Tryz.prog ops Q rest (a.put o.dst (.slice (some ⟨g, 0, none⟩) 1 c2)) w') : wpListIn F d Tryz.prog ops Q (o :: rest) a w := by
  obtain ⟨i, hi, hz, hz1, hz2⟩ := info_parts infoPc
  refine wpListIn_append_own w hgd s x 76 ho w.heap.size 22 i _ 1 24 Tryz.underlying76 hi hz hz1 hz2 rfl (by decide) (.slice none 0 0) 0 [] hsv ⟨rfl, .inl ⟨rfl, rfl⟩⟩ ⟨k, 0, none⟩ 1 1 [.slice A n c] hxv rfl (fun j u hu => ?_) (fun u hu => by obtain rfl := List.mem_singleton.1 hu; rfl) (by simp [maxLen]) (by omega) (Nat.le_refl _) (fun v' w' h1 h2 h3 => ?_)
  · rw [add_zero_, Nat.zero_add, hx.cell]
    simpa using hu
  · rcases h1.2 with ⟨rfl, h0⟩ | ⟨g, cap, cur, rfl, hb, hg, hnc, hcm, hcs, htk⟩
    · cases h0
    · refine h g cap cur w' hb hg ?_ ⟨h2.os, h2.tape, h2.output, h2.size, fun k hk => h2.block k hk (by simp [Value.ownBlock])⟩
      have := congrArg (fun l => l[0]?) htk
      simpa using this
set_option maxRecDepth 100000 in
set_option maxHeartbeats 4000000 in
theorem appendSeq_any (A : Option Addr) (m c B1 B2 : Nat) (hm : m ≤ 4096) (hmc : m ≤ c) (hc : c ≤ 9223372036854775807) (hA : 0 < m → ∃ ad, A = some ad) (w : World) (k1 : Has w B1 22 #[.slice A m c]) (k2 : Has w B2 3 #[.int .i64 4096]) :
    Calls Tryz.prog 57 #[.slice none 0 0, .func (.func 58) #[] #[.pointer (some ⟨B1, 0, none⟩), .pointer (some ⟨B2, 0, none⟩)]] w (AppR A m w) := by
  have k0 := Has.new w 76 #[.slice none 0 0]
  have hb0 : Below w.heap.size w (w.alloc (.cells #[.slice none 0 0] 76)) := (Below.refl _ _).alloc (Nat.le_refl _) _
  have z0 : (w.alloc (.cells #[.slice none 0 0] 76)).heap.size = w.heap.size + 1 := by simp
  have q1 := k1.alloc (.cells #[.slice none 0 0] 76)
  have q2 := k2.alloc (.cells #[.slice none 0 0] 76)
  have hl1 := k1.lt
  have hl2 := k2.lt
  refine (callsIn_wide (n := 3)).1 ?_
  refine callsIn_of_wp_marks Tryz.func57 rfl trivial ?_ rfl
  refine wpIn_wide.2 ?_
  simp only [Tryz.ntmps57, List.size_toArray, List.length_cons, List.length_nil, Nat.reduceAdd, Nat.reduceSub, Array.replicate_succ, Array.replicate_zero, List.push_toArray, List.append_toArray, List.nil_append, List.cons_append]
  go_wp2
  generalize w.alloc (.cells #[.slice none 0 0] 76) = w0 at k0 hb0 z0 q1 q2 ⊢
  have z0' := Lib.hid z0
  have hb0' := Lib.hid hb0
  clear k1 k2 z0 hb0
  refine (wpIn_wide (n := 3)).1 ?_
  refine wpIn_range_meets 0 rfl (by omega) (gf := 58) (lb := #[.pointer (some ⟨B1, 0, none⟩), .pointer (some ⟨B2, 0, none⟩)]) rfl trivial (enters_of Tryz.func58 (by kernel_rfl) rfl)
    (chunk1_stops 2 (by omega) A m c B1 B2 hm hmc hc hA w0 q1 q2) Kept.trans (kept_b (fun k e => by have := z0'.out; omega)) (Below.refl _ _) (fun _ => rfl)
    (fun xs V => Got w.heap.size w.heap.size A m xs V ∧ Below w.heap.size w V ∧ w.heap.size + 1 ≤ V.heap.size) (fun _ _ _ => False)
    (fun V => Got w.heap.size w.heap.size A m (if m = 0 then [] else [()]) V ∧ Below w.heap.size w V)
    (fun s X Y row hs hg hr => ⟨hs.1.keeps (fun j t cs h => grown_has hg (fun r e => (hr r e).2) h), ⟨hg.os.trans hs.2.1.os, hg.tape.trans hs.2.1.tape, hg.output.trans hs.2.1.output, Nat.le_trans hs.2.1.size hg.size, fun k hk => (hg.block k (by omega) (fun e => by have := (hr k e.symm).1; have := z0'.out; omega)).trans (hs.2.1.block k hk)⟩, Nat.le_trans hs.2.2 hg.size⟩)
    (fun c s X Y row hs hg hr => hs)
    ⟨.inl ⟨rfl, k0⟩, hb0'.out, by rw [z0'.out]; exact Nat.le_refl _⟩
    (fun xs W hS ⟨h1, h2, _⟩ => ⟨by
      have : xs = (if m = 0 then [] else [()]) := by
        by_cases h0 : m = 0
        · rw [if_pos h0] at hS ⊢; exact List.length_eq_zero_iff.1 hS
        · rw [if_neg h0] at hS ⊢
          match xs, hS with
          | [()], _ => rfl
      rw [← this]; exact h1, h2⟩)
    (fun c pre W _ h => h.elim)
    ?a1 ?assign ?body (fun _ _ h => h) ?rest
  case assign =>
    intro l y W K hK
    have hK' := Lib.hid hK
    clear hK
    dsimp only [encC]
    gi_wp2
    exact hK'.out
  case body =>
    rintro l pre y W ⟨hgot, hb, hz⟩ hlen
    obtain rfl : pre = [] := List.length_eq_zero_iff.1 (by omega)
    rcases hgot with ⟨_, hh⟩ | ⟨h, _⟩
    · have c0 := hh.cell 0
      have f0 := hh.free 0
      have hh' := Lib.hid hh
      have hb' := Lib.hid hb
      clear hh hb
      have hal := Lib.hid ((Below.refl W.heap.size W).alloc (Nat.le_refl _) (.cells #[.slice A m m] 22))
      gi_wp2_with (refine wpListIn_append_piece rfl _ _ rfl rfl W.heap.size A m m rfl (Has.new _ _ _) ?_; intro g2 c2 cs2 w2 hg2 hh2 hcs2 hb2; have hB2 := Lib.hid (hal.out.trans (hb2.mono (by simp))); have hkb := (hh'.out.below hB2.out hh'.out.lt); have c4 := hkb.cell 0; have f4 := hkb.free 0; have hkb' := Lib.hid hkb; have hg2' := Lib.hid hg2; have hh2' := Lib.hid hh2; have hcs2' := Lib.hid hcs2; clear hg2 hh2 hcs2 hb2 hkb)
      have hgs := hg2'.out
      rw [World.size_alloc] at hgs
      have hne : g2 ≠ w.heap.size := by omega
      refine ⟨⟨by simp [World.setCell]; exact hB2.out.size, fun k o hk ho _ => ?_⟩, fun k hk => ?_, .inr ⟨by cases y; rfl, g2, c2, cs2, ?_, by omega, hh2'.out.other hne _, hcs2'.out⟩, ?_, ?_⟩
      · exact (Below.heap_setCell w2 ⟨w.heap.size, 0, none⟩ _ k (by show k ≠ w.heap.size; have := z0'.out; omega)).trans ((hB2.out.block k (Array.getElem?_eq_some_iff.1 ho).1).trans ho)
      · exact (Below.heap_setCell w2 ⟨w.heap.size, 0, none⟩ _ k (by show k ≠ w.heap.size; rcases hk with rfl | rfl <;> omega)).trans (hB2.out.block k (by rcases hk with rfl | rfl <;> omega))
      · have := hkb'.out.put 0 (.slice (some ⟨g2, 0, none⟩) 1 c2)
        simpa using this
      · exact (hb'.out.trans (hB2.out.mono hb'.out.size)).setCell (p := ⟨w.heap.size, 0, none⟩) (Nat.le_refl _) _
      · simp [World.setCell]; have := hB2.out.size; omega
    · cases h
  case rest =>
    rintro D V hD ⟨hgot, hb⟩ hKd
    have hDw : w.heap.size + 1 ≤ D := by have := z0'.out; omega
    have hput : ∀ k o, k < w.heap.size + 1 → Below w.heap.size w V → Below w.heap.size w (V.putObj D o) := fun k o _ h => h.trans ⟨rfl, rfl, rfl, by simp [World.putObj], fun k hk => World.putObj_heap_other (by omega)⟩
    by_cases h0 : m = 0
    · rw [if_pos h0] at hgot
      rcases hgot with ⟨_, hh⟩ | ⟨h, _⟩
      · have c0 := hh.cell 0
        go_wp2
        refine ⟨by simp, .inl ⟨_, _, rfl, run_takeDeferred hKd, ?_⟩⟩
        exact ⟨_, results_tmp (t := 4) rfl _ _ _, hput 0 _ (by omega) hb, .inl ⟨rfl, rfl⟩⟩
      · cases h
    · rw [if_neg h0] at hgot
      rcases hgot with ⟨h, _⟩ | ⟨_, g, c2, cs, hh, hg, hr, hc0⟩
      · cases h
      · have c0 := hh.cell 0
        have hDg : g ≠ D := fun e => by
          subst e
          have h1 : V.heap[g]? = some (.cells cs 22 (0, 0)) := hr
          have h2 : V.heap[g]? = some (.deferred (some [])) := hKd
          rw [h1] at h2; cases h2
        have hr' := Lib.hid hr
        clear hr
        go_wp2
        refine ⟨by simp, .inl ⟨_, _, rfl, run_takeDeferred hKd, ?_⟩⟩
        exact ⟨_, results_tmp (t := 4) rfl _ _ _, hput 0 _ (by omega) hb, .inr ⟨by omega, g, c2, cs, rfl, hg, hr'.out.put_obj _ hDg, hc0⟩⟩
theorem collect_any (A : Option Addr) (m B1 B2 : Nat) (w : World) (h : Calls Tryz.prog 57 #[.slice none 0 0, .func (.func 58) #[] #[.pointer (some ⟨B1, 0, none⟩), .pointer (some ⟨B2, 0, none⟩)]] w (AppR A m w)) :
    Calls Tryz.prog 38 #[.func (.func 58) #[] #[.pointer (some ⟨B1, 0, none⟩), .pointer (some ⟨B2, 0, none⟩)]] w (AppR A m w) := by
  have h' := Lib.hid h
  clear h
  unfold AppR at *
  go_enter Tryz.func38, Tryz.ntmps38
  go_wp2_with (go_at_call 57; (with_reducible refine Calls.mono h'.out ?_); rintro e w2 ⟨hb, (⟨h0, rfl⟩ | ⟨h0, g, c2, cs, rfl, hg, hh, hcs⟩)⟩)
  · go_ret
    exact ⟨hb, .inl ⟨h0, rfl⟩⟩
  · go_ret
    exact ⟨hb, .inr ⟨h0, g, c2, cs, rfl, hg, hh, hcs⟩⟩
/-- The pieces of few bytes. -/
theorem cutPs_any (A : Option Addr) (b : List UInt8) (n c : Nat) (w : World) (hn : n = b.length) (hc : n ≤ c) (hcm : c ≤ 9223372036854775807) (hl : n ≤ 4096) (hA : 0 < n → ∃ ad, A = some ad) :
    Calls Tryz.prog 23 #[.slice A n c] w fun e w' => Below w.heap.size w w' ∧ ∃ PA pc, e = .returned (.slice PA (pcs b).length pc) ∧ ∀ k x, (pcs b)[k]? = some x → x = b ∧ ∃ g cs, PA = some ⟨g, 0, none⟩ ∧ w.heap.size ≤ g ∧ Has w' g 22 cs ∧ k = 0 ∧ cs[0]? = some (.slice A b.length b.length) := by
  have hch := Lib.hid (show Calls Tryz.prog 39 #[.slice A n c, .int .i64 4096] w fun e w' =>
    e = .returned (.func (.func 58) #[] #[.pointer (some ⟨w.heap.size, 0, none⟩), .pointer (some ⟨w.heap.size + 1, 0, none⟩)]) ∧ w' = (w.alloc (.cells #[.slice A n c] 22)).alloc (.cells #[.int .i64 4096] 3) from chunk_any A n c 4096 (by omega) w)
  have hb2 : Below w.heap.size w ((w.alloc (.cells #[.slice A n c] 22)).alloc (.cells #[.int .i64 4096] 3)) := ((Below.refl _ _).alloc (Nat.le_refl _) _).alloc (by simp) _
  have k1 := (Has.new w 22 #[.slice A n c]).alloc (.cells #[.int .i64 4096] 3)
  have k2 := Has.new (w.alloc (.cells #[.slice A n c] 22)) 3 #[.int .i64 4096]
  rw [World.size_alloc] at k2
  have hap := appendSeq_any A n c w.heap.size (w.heap.size + 1) hl hc hcm hA _ k1 k2
  have hap' := Lib.hid hap
  have hb2' := Lib.hid hb2
  clear hap k1 k2 hb2
  obtain ⟨w1, hw1⟩ : ∃ w1, (w.alloc (.cells #[.slice A n c] 22)).alloc (.cells #[.int .i64 4096] 3) = w1 := ⟨_, rfl⟩
  rw [hw1] at hap' hb2' hch
  have hcol := Lib.hid (collect_any A n w.heap.size (w.heap.size + 1) w1 hap'.out)
  have hn' := Lib.hid hn
  clear hw1 hap' hn
  go_enter Tryz.func23, Tryz.ntmps23
  go_wp2_with (first
    | (go_at_call 39; (with_reducible refine Calls.mono hch.out ?_); rintro e w2 ⟨rfl, hw2⟩; obtain rfl := hw2.symm)
    | (go_at_call 38; (with_reducible refine Calls.mono hcol.out ?_); rintro e w3 ⟨hb3, (⟨h0, rfl⟩ | ⟨h0, g, c2, cs, rfl, hg, hh, hcs⟩)⟩))
  · go_ret
    have hb0 : b = [] := List.eq_nil_of_length_eq_zero (by have := hn'.out; omega)
    subst hb0
    exact ⟨hb2'.out.trans (hb3.mono hb2'.out.size), none, 0, rfl, fun k x hx => by simp [pcs] at hx⟩
  · go_ret
    have hb0 : b ≠ [] := fun e => by have hn := hn'.out; rw [e] at hn; simp at hn; omega
    have hz := hb2'.out.size
    refine ⟨hb2'.out.trans (hb3.mono hb2'.out.size), some ⟨g, 0, none⟩, c2, by unfold pcs; rw [if_neg hb0]; rfl, fun k x hx => ?_⟩
    unfold pcs at hx
    rw [if_neg hb0] at hx
    cases k with
    | zero =>
      obtain rfl : b = x := by simpa using hx
      exact ⟨rfl, g, cs, rfl, by omega, hh, rfl, by rw [← hn'.out]; exact hcs⟩
    | succ k => simp at hx
end Go.Proofs.YtlcfpnegpihicaaGreatDoor

namespace Go.Proofs.YtlcfpnegpihicaaGreatDoor
open Go.RowKit Go.Shelf
attribute [local go_sem] Oper.semAt_some
attribute [local go_sem] wide_fn wide_depth wide_round

/-! ## An iterator that does its work at first -/
/-- What a round must leave alone: all below n but Wr. -/
structure KeepN (n : Nat) (Wr : Nat → Prop) (W W' : World) : Prop where
  size : W.heap.size ≤ W'.heap.size
  low : ∀ k, k < n → ¬ Wr k → W'.heap[k]? = W.heap[k]?
theorem KeepN.refl (n : Nat) (Wr : Nat → Prop) (W : World) : KeepN n Wr W W := ⟨Nat.le_refl _, fun _ _ _ => rfl⟩
theorem KeepN.trans {n : Nat} {Wr : Nat → Prop} {A B C : World} (h : KeepN n Wr A B) (k : KeepN n Wr B C) : KeepN n Wr A C := ⟨Nat.le_trans h.size k.size, fun i hi hn => (k.low i hi hn).trans (h.low i hi hn)⟩
theorem KeepN.below {n : Nat} {Wr : Nat → Prop} {A B : World} (h : Below A.heap.size A B) (hn : n ≤ A.heap.size) : KeepN n Wr A B := ⟨h.size, fun k hk _ => h.block k (by omega)⟩
theorem KeepN.has {n : Nat} {Wr : Nat → Prop} {A B : World} (h : KeepN n Wr A B) {k : Nat} {t : TypeId} {cs : Array Value} (hk : k < n) (hn : ¬ Wr k) (hh : Has A k t cs) : Has B k t cs := (h.low k hk hn).trans hh
/-- An iterator that does what it does at first (R), and then but makes memory between its rounds. -/
def SeqA {α : Type} (n : Nat) (P : Program) (gf : Nat) (lb : Array Value) (encs : α → Array Value) (Wr : Nat → Prop) (R : World → World → Prop) (S Sp : List α → Prop) (N : Nat) (w : World) : Prop :=
  ∀ (l : Nat) (J Jx : World → List α → World → Prop) (W : World), Below w.heap.size w W → (∀ V1, R W V1 → J V1 [] V1) → (∀ V1 pre X Y, J V1 pre X → Below X.heap.size X Y → J V1 pre Y) →
    (∀ V1 pre x V, R W V1 → V1.heap.size ≤ V.heap.size → J V1 pre V → pre.length < N → Sp (pre ++ [x]) → YieldAt Fence.wide (n - 1) P l (encs x) V fun e V' => KeepsFrom W.heap.size V V' ∧
      ((e = .returned (.bool true) ∧ J V1 (pre ++ [x]) V' ∧ KeepN V1.heap.size Wr V V') ∨ (e = .returned (.bool false) ∧ Jx V1 (pre ++ [x]) V'))) →
    CallsIn Fence.wide n P gf (#[.func (.yield l) #[] #[]] ++ lb) W fun e V => (∃ v, e = .returned v) ∧ ∃ V1, R W V1 ∧ ((∃ xs, S xs ∧ J V1 xs V ∧ KeepN V1.heap.size Wr V1 V) ∨ (∃ pre, Sp pre ∧ Jx V1 pre V))
set_option maxHeartbeats 1000000 in
theorem wpIn_range_after {α : Type} {n : Nat} {P : Program} {g : Operand} {ps : Array Tmp} {assign body : Code} {Q : Exit → Act → World → Prop} {a : Act} {w : World}
    {gf : Nat} {lb : Array Value} (hg : a.eval g = .func (.func gf) #[] lb) (eg : ∀ args w, (callFunc gf args).run P w = .ok (.enter gf args) w)
    {encs : α → Array Value} {Wr : Nat → Prop} {R : World → World → Prop} {S Sp : List α → Prop} {N : Nat} {w0 : World} (hseq : SeqA (n - 1) P gf lb encs Wr R S Sp N w0)
    (hb0 : Below w0.heap.size w0 w) (hps : ∀ x, (encs x).size = ps.size) (hWr : ∀ k, Wr k → k < w.heap.size)
    (hR : ∀ W V1, R W V1 → W.heap.size ≤ V1.heap.size ∧ ∀ k, w.heap.size ≤ k → k < W.heap.size → V1.heap[k]? = W.heap[k]?)
    (I : World → List α → World → Prop) (Ix : World → Code → List α → World → Prop)
    (hI : ∀ V1 pre X Y, I V1 pre X → Below X.heap.size X Y → I V1 pre Y) (hIp : ∀ V1 pre X l o o', I V1 pre X → w.heap.size ≤ l → X.heap[l]? = some o → o.isCells = false → I V1 pre (X.putObj l o')) (hIxp : ∀ V1 c pre X l o o', Ix V1 c pre X → w.heap.size ≤ l → X.heap[l]? = some o → o.isCells = false → Ix V1 c pre (X.putObj l o'))
    (h0 : ∀ V V1, Below w.heap.size w V → R V V1 → I V1 [] V1) (Ax : α → Act → World → Prop) (hAx : ∀ x a' (W : World) (l : Nat) (o o' : Obj), Ax x a' W → W.heap[l]? = some o → o.isCells = false → Ax x a' (W.putObj l o'))
    (hassign : ∀ (l : Nat) (x : α) (W : World) (K : Act → World → Prop), (∀ a' W', Below W.heap.size W W' → Ax x a' W' → K a' W') →
      assign.wpIn (Fence.wide.inRound l) (n - 1 - 1) P (Exit.then K (fun _ _ _ => False)) { tmps := (ps.zip (encs x)).foldl (fun t (p, v) => t.setIfInBounds p v) a.tmps, defers := [] } W)
    (hbody : ∀ (l : Nat) (V1 : World) (pre : List α) (x : α) (a' : Act) (W : World), w.heap.size ≤ l → (∃ r, W.heap[l]? = some (.loop r)) → V1.heap.size ≤ W.heap.size → (∃ V, Below w.heap.size w V ∧ R V V1) → I V1 pre W → Ax x a' W → pre.length < N → Sp (pre ++ [x]) → body.wpIn (Fence.wide.inRound l) (n - 1 - 1) P (ownPostG w.heap.size (KeepN V1.heap.size (fun k => Wr k ∨ k = l)) (I V1) (Ix V1) (pre ++ [x]) W) a' W)
    (hall : ∀ (D : Nat) (V V1 : World) (xs : List α) (W : World), w.heap.size ≤ D → w.heap.size + 2 ≤ V.heap.size → Below w.heap.size w V → R V V1 → S xs → I V1 xs W → KeepN V1.heap.size (fun k => Wr k ∨ k = w.heap.size + 1) V1 W → NoCalls W D → Q .normal { a with defers := { target := .collected D, args := #[] } :: a.defers } W)
    (hleft : ∀ (D : Nat) (V V1 : World) (c : Code) (pre : List α) (W : World), w.heap.size ≤ D → Below w.heap.size w V → R V V1 → Sp pre → Ix V1 c pre W → NoCalls W D → c.wpIn Fence.wide n P Q { a with defers := { target := .collected D, args := #[] } :: a.defers } W) :
    (Code.rangeFunc g ps assign body).wpIn Fence.wide n P Q a w := by
  refine wpIn_rangeFunc fun fn hfn => ?_
  obtain ⟨rc, hrc⟩ : ∃ rc : LoopState → Option Code → Loop, rc = fun st pe => { state := st, pending := pe, fn, tmps := a.tmps, params := ps, assign, body, defers := w.heap.size } := ⟨_, rfl⟩
  obtain ⟨V, hV⟩ : ∃ V, (w.alloc (.deferred (some []))).alloc (.loop (rc .ready none)) = V := ⟨_, rfl⟩
  have zV : V.heap.size = w.heap.size + 1 + 1 := by rw [← hV]; simp
  have lr : V.heap[w.heap.size + 1]? = some (.loop (rc .ready none)) := by rw [← hV]; have := World.alloc_heap_new (w.alloc (.deferred (some []))) (.loop (rc .ready none)); rwa [World.size_alloc] at this
  have ld : V.heap[w.heap.size]? = some (.deferred (some [])) := by rw [← hV]; exact (Below.heap_alloc _ _ _ (by simp)).trans (World.alloc_heap_new w _)
  have hbV : Below w0.heap.size w0 V := by rw [← hV]; exact hb0.trans ((((Below.refl _ w).alloc (Nat.le_refl _) _).alloc (by simp) _).mono hb0.size)
  refine ⟨w.heap.size + 1, [{ target := .collected w.heap.size, args := #[] }], V, { target := .fn (.func gf) lb, args := #[.func (.yield (w.heap.size + 1)) #[] #[]] }, V, gf, #[.func (.yield (w.heap.size + 1)) #[] #[]] ++ lb, V, ?_, ?_, fun _ _ => trivial, ?_, fun h => (by cases h), ?_⟩
  · rw [← hV, hrc]; exact run_enterLoop_outer _ _ _ _ _
  · simp only [resolve, hg]; simp [go_sem]
  · simp [invoke, go_sem, eg]
  have hbwV : Below w.heap.size w V := by rw [← hV]; exact ((Below.refl _ w).alloc (Nat.le_refl _) _).alloc (by simp) _
  · refine (hseq (w.heap.size + 1) (fun V1 pre W => I V1 pre W ∧ W.heap[w.heap.size + 1]? = some (.loop (rc .ready none)) ∧ W.heap[w.heap.size]? = some (.deferred (some [])))
      (fun V1 pre W => ∃ c, Ix V1 c pre W ∧ W.heap[w.heap.size + 1]? = some (.loop (rc .done (some c))) ∧ W.heap[w.heap.size]? = some (.deferred (some []))) V hbV
      (fun V1 hr => ⟨h0 V V1 hbwV hr, ((hR V V1 hr).2 _ (by omega) (by omega)).trans lr, ((hR V V1 hr).2 _ (by omega) (by omega)).trans ld⟩)
      (fun V1 s X Y hs hb => ⟨hI V1 s X Y hs.1 hb, (hb.block _ (Array.getElem?_eq_some_iff.1 hs.2.1).1).trans hs.2.1, (hb.block _ (Array.getElem?_eq_some_iff.1 hs.2.2).1).trans hs.2.2⟩) ?_).mono ?_
    · rintro V1 pre x X hr hsz ⟨hi, hl, hd⟩ hlen hspx
      have hy := run_yield (P := P) (args := encs x) hl (by rw [hrc]; exact hps x)
      rw [hrc] at hy
      refine ⟨fn, _, assign, body, hy, roundIn_of_wpIn hfn (hassign _ x X _ (fun a' W' hbW hax => ?_))⟩
      have hlX := hl
      have hzX := hbW.size
      have hl : W'.heap[w.heap.size + 1]? = some (.loop (rc .ready none)) := (hbW.block _ (Array.getElem?_eq_some_iff.1 hlX).1).trans hlX
      have hd : W'.heap[w.heap.size]? = some (.deferred (some [])) := (hbW.block _ (Array.getElem?_eq_some_iff.1 hd).1).trans hd
      have hi := hI _ _ _ _ hi hbW
      refine ⟨_, run_beginRound hl (by rw [hrc]), ?_⟩
      have hlt : w.heap.size + 1 < W'.heap.size := (Array.getElem?_eq_some_iff.1 hl).1
      obtain ⟨Y, hY⟩ : ∃ Y, W'.putObj (w.heap.size + 1) (.loop { rc .ready none with state := .busy }) = Y := ⟨_, rfl⟩
      rw [hY]
      have yl : Y.heap[w.heap.size + 1]? = some (.loop { rc .ready none with state := .busy }) := by rw [← hY]; exact World.putObj_heap_same hlt
      have yd : Y.heap[w.heap.size]? = some (.deferred (some [])) := by rw [← hY]; exact (World.putObj_heap_other (by omega)).trans hd
      have yi : I V1 pre Y := by rw [← hY]; exact hIp _ _ _ _ _ _ hi (by omega) hl rfl
      have ys : Y.heap.size = W'.heap.size := by rw [← hY]; simp [World.putObj]
      have yax : Ax x a' Y := by rw [← hY]; exact hAx _ _ _ _ _ _ hax hl rfl
      refine wpIn_mono (hbody _ V1 pre x a' Y (by omega) ⟨_, yl⟩ (by omega) ⟨V, hbwV, hr⟩ yi yax hlen hspx) ?_
      have fin : ∀ (jump : Option Code) (Z : World), KeepsFrom w.heap.size Y Z →
          (Instr.endRound (w.heap.size + 1) jump).run P Z = .ok (.bool jump.isNone) (Z.putObj (w.heap.size + 1) (.loop (rc (if jump.isNone then .ready else .done) jump))) ∧
          Z.heap[w.heap.size + 1]? = some (.loop { rc .ready none with state := .busy }) ∧
          (Z.putObj (w.heap.size + 1) (.loop (rc (if jump.isNone then .ready else .done) jump))).heap[w.heap.size + 1]? = some (.loop (rc (if jump.isNone then .ready else .done) jump)) ∧
          (Z.putObj (w.heap.size + 1) (.loop (rc (if jump.isNone then .ready else .done) jump))).heap[w.heap.size]? = some (.deferred (some [])) ∧
          KeepsFrom V.heap.size X (Z.putObj (w.heap.size + 1) (.loop (rc (if jump.isNone then .ready else .done) jump))) := fun jump Z hk => by
        have zl := hk.same _ _ (by omega) yl rfl
        have := run_endRound (P := P) jump zl
        rw [hrc] at this ⊢
        refine ⟨this, by rw [hrc] at zl; exact zl, World.putObj_heap_same (Array.getElem?_eq_some_iff.1 zl).1, (World.putObj_heap_other (by omega)).trans (hk.same _ _ (Nat.le_refl _) yd rfl), ?_, fun k o hk1 hk2 hk3 => ?_⟩
        · have := hk.size; simp [World.putObj]; omega
        · refine (World.putObj_heap_other (by omega)).trans (hk.same k o (by omega) ?_ hk3)
          rw [← hY]
          exact (World.putObj_heap_other (by omega)).trans ((hbW.block k (Array.getElem?_eq_some_iff.1 hk2).1).trans hk2)
      rintro e a3 Z hp
      cases e with
      | normal =>
        obtain ⟨hk3, hkp3, hi3⟩ := hp
        obtain ⟨hr3, hl3, hl4, hk4, hkf⟩ := fin none Z hk3
        refine ⟨_, _, hr3, hkf, .inl ⟨rfl, ⟨hIp _ _ _ _ _ _ hi3 (by omega) hl3 rfl, hl4, hk4⟩, ⟨by have := hk3.size; simp [World.putObj]; omega, fun k hk hn => ?_⟩⟩⟩
        by_cases hkl : k = w.heap.size + 1
        · subst hkl
          exact hl4.trans hlX.symm
        · refine (World.putObj_heap_other hkl).trans ((hkp3.low k hk (fun h => ?_)).trans ?_)
          · rcases h with h | h
            · exact hn h
            · exact hkl h
          · rw [← hY]; exact (World.putObj_heap_other hkl).trans (hbW.block k (by omega))
      | ret =>
        obtain ⟨hk3, hi3⟩ := hp
        obtain ⟨hr3, hl3, hl4, hk4, hkf⟩ := fin (some .ret) Z hk3
        exact ⟨_, _, hr3, hkf, .inr ⟨rfl, .ret, hIxp _ _ _ _ _ _ _ hi3 (by omega) hl3 rfl, hl4, hk4⟩⟩
      | exit id' =>
        obtain ⟨hk3, hi3⟩ := hp
        obtain ⟨hr3, hl3, hl4, hk4, hkf⟩ := fin (some (.exit id')) Z hk3
        exact ⟨_, _, hr3, hkf, .inr ⟨rfl, .exit id', hIxp _ _ _ _ _ _ _ hi3 (by omega) hl3 rfl, hl4, hk4⟩⟩
      | goto t =>
        obtain ⟨hk3, hi3⟩ := hp
        obtain ⟨hr3, hl3, hl4, hk4, hkf⟩ := fin (some (.goto t)) Z hk3
        exact ⟨_, _, hr3, hkf, .inr ⟨rfl, .goto t, hIxp _ _ _ _ _ _ _ hi3 (by omega) hl3 rfl, hl4, hk4⟩⟩
      | panic ch => exact hp.elim
      | outgrown => exact hp.elim
    · rintro e Z ⟨⟨v, rfl⟩, V1, hr, (⟨xs, hS, ⟨hi, hl, hk⟩, hkn⟩ | ⟨pre, hSp, c, hi, hl, hk⟩)⟩
      · exact ⟨none, _, by have := run_endLoop (P := P) hl (by rw [hrc]; simp); rw [hrc] at this; exact this, hall _ V V1 xs _ (Nat.le_refl _) (by omega) hbwV hr hS (hIp _ _ _ _ _ _ hi (by omega) hl rfl) ⟨by have := hkn.size; simp [World.putObj]; omega, fun k hk2 hn => (World.putObj_heap_other (fun e => hn (.inr e))).trans (hkn.low k hk2 (fun h => hn (.inl h)))⟩ ((World.putObj_heap_other (by omega)).trans hk)⟩
      · exact ⟨some c, _, by have := run_endLoop (P := P) hl (by rw [hrc]; simp); rw [hrc] at this; exact this, hleft _ V V1 c pre _ (Nat.le_refl _) hbwV hr hSp (hIxp _ _ _ _ _ _ _ hi (by omega) hl rfl) ((World.putObj_heap_other (by omega)).trans hk)⟩
end Go.Proofs.YtlcfpnegpihicaaGreatDoor

namespace Go.Proofs.YtlcfpnegpihicaaGreatDoor
open Go.RowKit Go.Shelf
attribute [local go_sem] Oper.semAt_some
attribute [local go_sem] wide_fn wide_depth wide_round

/-! ## Fields, as the lines end -/
theorem cell_same {W W' : World} {k i : Nat} (h : W'.heap[k]? = W.heap[k]?) : W'.cell? ⟨k, i, none⟩ = W.cell? ⟨k, i, none⟩ := by
  simp only [World.cell?, h]
/-- The tables that lines and fields ask for. -/
def FTabs (W : World) : Prop := NamesT W ∧ MaxT W ∧ Tab W ∧ TabU W ∧ Ends W
def FLow (nb : Nat) : Prop := 5 < nb ∧ 4 < nb ∧ 3 < nb ∧ 6 < nb ∧ 2 < nb
theorem FTabs.kept {W W' : World} {nb : Nat} (h : FTabs W) (hn : FLow nb) (hk : ∀ k, k < nb → W'.heap[k]? = W.heap[k]?) : FTabs W' := by
  obtain ⟨⟨t, h1⟩, ⟨m, h2⟩, h3, ⟨t4, cs4, h4, h4'⟩, h5⟩ := h
  obtain ⟨n1, n2, n3, n4, n5⟩ := hn
  refine ⟨⟨t, (hk _ n1).trans h1⟩, ⟨m, (hk _ n2).trans h2⟩, ?_, ⟨t4, cs4, (hk _ n4).trans h4, h4'⟩, ?_⟩
  · unfold Tab at *
    rw [cell_same (hk _ n3), cell_same (hk _ n3)]
    exact h3
  · exact h5.kept (hk _ n5)
theorem fieldsL_take {ls : List (List UInt8 × Bool)} {i : Nat} (hi : i < ls.length) : fieldsL (ls.take (i + 1)) = fieldsL (ls.take i) ++ (saidL ls[i]).toList := by
  unfold fieldsL
  rw [List.take_succ_eq_append_getElem hi, List.filterMap_append]
  cases h : saidL ls[i] <;> simp [h]
theorem fieldsL_pre (ls : List (List UInt8 × Bool)) (i : Nat) : fieldsL (ls.take i) = (fieldsL ls).take (fieldsL (ls.take i)).length := by
  have h : fieldsL ls = fieldsL (ls.take i) ++ fieldsL (ls.drop i) := by
    unfold fieldsL
    rw [← List.filterMap_append, List.take_append_drop]
  rw [h, List.take_left']
  rfl
def encF (f : FdT) : Array Value := #[.agg (fdC f)]
/-- What such an iterator does at first: bytes come to the splitter. -/
def WroteF (sp dp most nb : Nat) (ob : Option Nat) (s : CSt) (x : List UInt8) (W V1 : World) : Prop :=
  ∃ ob', SpO V1 nb sp dp most ob' (stepC most s x).2 ∧ (∀ k, ob' = some k → ob = some k ∨ W.heap.size ≤ k) ∧ Chg (ChL sp dp ob) W V1
set_option maxRecDepth 100000 in
set_option maxHeartbeats 4000000 in
theorem fields1_none (n : Nat) (p sp dp most nb bP bS pc : Nat) (PA : Option Addr) (ob : Option Nat) (s : CSt) (Wr : Nat → Prop) (w : World) (hs : SpO w nb sp dp most ob s) (hok : s.ok most)
    (k1 : Has w bP 76 #[.slice PA 0 pc]) :
    SeqA n Tryz.prog 61 #[.pointer (some ⟨bP, 0, none⟩), .pointer (some ⟨bS, 0, none⟩)] encF Wr (WroteF sp dp most nb ob s []) (fun ys => ys = fieldsL (stepC most s []).1) (fun pre => ∃ k, 0 < k ∧ pre = (fieldsL (stepC most s []).1).take k) (fieldsL (stepC most s []).1).length w := by
  intro l J Jx W hW h0 hJ hY
  have k1 := k1.below hW k1.lt
  have c1 := k1.cell 0
  have hR : WroteF sp dp most nb ob s [] W W := ⟨ob, by rw [stepC_nil hok]; exact hs.below hW, fun k h => .inl h, Chg.refl _ _⟩
  have h0' := Lib.hid (h0 W hR)
  have hst := stepC_nil hok
  rw [hst]
  have hR' := Lib.hid hR
  clear h0 hJ hY k1 hs hst hR
  refine callsIn_of_wp Tryz.func61 rfl trivial ?_ rfl
  simp only [Tryz.ntmps61, List.size_toArray, List.length_cons, List.length_nil, Nat.reduceAdd, Nat.reduceSub, Array.replicate_succ, Array.replicate_zero, List.push_toArray, List.append_toArray, List.nil_append, List.cons_append]
  gi_wp2
  gi_loopw [14] (fun x wr => x = .int .i64 ((0 : Nat) : Int) ∧ wr = W) (fun _ _ => 0)
  case atStart => exact ⟨rfl, rfl⟩
  case round =>
    obtain ⟨rfl, rfl⟩ := hrel
    gi_wp2
    go_end0
    exact ⟨⟨_, rfl⟩, _, hR'.out, .inl ⟨_, rfl, h0'.out, KeepN.refl _ _ _⟩⟩
/-- Behind the first i lines. -/
def FAt (V1 : World) (J : World → List FdT → World → Prop) (Wr : Nat → Prop) (ls : List (List UInt8 × Bool)) (i : Nat) (V : World) : Prop := i ≤ ls.length ∧ J V1 (fieldsL (ls.take i)) V ∧ KeepN V1.heap.size Wr V1 V
set_option maxRecDepth 100000 in
set_option maxHeartbeats 8000000 in
theorem fields1_some (n : Nat) (p sp dp most nb bP bS g c1 c2 pc : Nat) (A : Option Addr) (ob : Option Nat) (s : CSt) (x : List UInt8) (cs : Array Value) (pcells : Array Value) (Wr : Nat → Prop) (w : World) (hs : SpO w nb sp dp most ob s) (hok : s.ok most) (hm1 : 1 ≤ most) (hm : most ≤ 65536) (hx : x.length ≤ 4096)
    (k1 : Has w bP 76 #[.slice (some ⟨g, 0, none⟩) 1 pc]) (k2 : Has w bS 127 #[.pointer (some ⟨p, 0, none⟩)]) (k3 : Has w g 22 cs) (hc0 : cs[0]? = some (.slice A x.length c1)) (hc1 : x.length ≤ c1) (hcm : c1 ≤ 9223372036854775807) (k4 : Has w p 71 pcells) (hp0 : pcells[0]? = some (.pointer (some ⟨sp, 0, none⟩)))
    (hr : Rd w (fun k => k < w.heap.size ∧ ¬ ChL sp dp ob k) A x) (hT : FTabs w) (hL : FLow nb) (hnb : nb ≤ w.heap.size) (hWn : ∀ k, Wr k → nb ≤ k ∧ k < w.heap.size) (hCn : ∀ k, ChL sp dp ob k → nb ≤ k) :
    SeqA n Tryz.prog 61 #[.pointer (some ⟨bP, 0, none⟩), .pointer (some ⟨bS, 0, none⟩)] encF Wr (WroteF sp dp most nb ob s x) (fun ys => ys = fieldsL (stepC most s x).1) (fun pre => ∃ k, 0 < k ∧ pre = (fieldsL (stepC most s x).1).take k) (fieldsL (stepC most s x).1).length w := by
  intro l J Jx W hW h0 hJ hY
  have k1 := k1.below hW k1.lt
  have k2 := k2.below hW k2.lt
  have k3 := k3.below hW k3.lt
  have k4 := k4.below hW k4.lt
  have d1 := k1.cell 0
  have d2 := k2.cell 0
  have d3 := k3.cell 0
  rw [hc0] at d3
  have d4 := k4.cell 0
  rw [hp0] at d4
  have hTW : FTabs W := hT.kept hL (fun k hk => hW.block k (by omega))
  have hrW : Rd W (fun k => k < W.heap.size ∧ ¬ ChL sp dp ob k) A x := (hr.kept (fun k hk => hW.block k hk.1)).mono (fun k hk => ⟨Nat.lt_of_lt_of_le hk.1 hW.size, hk.2⟩)
  have hwr := Lib.hid ((callsIn_wide (n := n - 1)).2 (writeL_any sp dp most nb ob s x A x.length c1 W (hs.below hW) hok hm1 hm rfl hc1 hcm hx hrW hTW.2.2.2.1 hTW.2.2.2.2 (fun h => by have := hCn _ h; have := hL.2.2.2.1; omega) (fun h => by have := hCn _ h; have := hL.2.2.2.2; omega) hL.2.2.2.2 (Nat.le_trans hnb hW.size)))
  unfold WroteL at hwr
  have hlens : ∀ y ∈ (stepC most s x).1, y.1.length ≤ 65536 := fun y hy => Nat.le_trans (stepC_good hok x y hy).2.2.1 hm
  obtain ⟨ls, hls⟩ : ∃ ls, (stepC most s x).1 = ls := ⟨_, rfl⟩
  rw [hls] at hwr hlens hY ⊢
  have hcount : ls.length ≤ 100000 := by
    have h1 := stepC_count (most := most) s x
    rw [hls] at h1
    have h2 : s.ws.length ≤ 3 := by obtain ⟨vb, _, _, a3, _⟩ := hs; exact a3.len
    omega
  have hT' := Lib.hid hTW
  have hJ' := Lib.hid hJ
  have hY' := Lib.hid hY
  have h0' := Lib.hid h0
  have hlens' := Lib.hid hlens
  have hls' := Lib.hid hls
  have hWz := hW.size
  clear h0 hJ hY k1 k2 k3 k4 hs hrW hTW hT hc0 hp0 hr hlens hls
  refine callsIn_of_wp Tryz.func61 rfl trivial ?_ rfl
  simp only [Tryz.ntmps61, List.size_toArray, List.length_cons, List.length_nil, Nat.reduceAdd, Nat.reduceSub, Array.replicate_succ, Array.replicate_zero, List.push_toArray, List.append_toArray, List.nil_append, List.cons_append]
  gi_wp2
  gi_loopw [14] (fun i wr => (i = .int .i64 ((0 : Nat) : Int) ∧ wr = W) ∨ (i = .int .i64 ((1 : Nat) : Int) ∧ ∃ V1, WroteF sp dp most nb ob s x W V1 ∧ FAt V1 J Wr ls ls.length wr)) (fun i _ => 1 - (intOf i).toNat)
  case atStart => exact .inl ⟨rfl, rfl⟩
  case round =>
    rcases hrel with ⟨rfl, hW0⟩ | ⟨rfl, V1, hR1, hF⟩
    · obtain rfl := hW0.symm
      gi_wp2_with fail
      refine hwr.out.mono ?_
      rintro e V1 ⟨v, ob', rfl, hln, hsp, hob, hchg⟩
      obtain ⟨A4, c4, rfl, hin⟩ := hln.shape
      have hR1 : WroteF sp dp most nb ob s x W V1 := ⟨ob', hsp, hob, hchg⟩
      have hJ1 := h0'.out V1 hR1
      have hTV : FTabs V1 := hT'.out.kept hL (fun k hk => hchg.block k (by omega) (fun h => by have := hCn _ h; omega))
      have hzV := hchg.size
      have hR1' := Lib.hid hR1
      have hTV' := Lib.hid hTV
      have hin' := Lib.hid hin
      have hJ1' := Lib.hid hJ1
      clear hln hsp hchg hin hJ1 hR1 hTV hwr h0' hT'
      gi_wp2
      gi_loopw [29] (fun i V => ∃ k : Nat, i = .int .i64 (k : Int) ∧ FAt V1 J Wr ls k V) (fun i _ => ls.length - (intOf i).toNat)
      case atStart => exact ⟨0, rfl, Nat.zero_le _, hJ1'.out, KeepN.refl _ _ _⟩
      case round =>
        obtain ⟨k, rfl, hkl, hj, hkn⟩ := hrel
        by_cases hlt : k < ls.length
        · have hltI : (k : Int) < (ls.length : Int) := by omega
          obtain ⟨g4, rfl, hg4, hg4z, hcells⟩ := hin'.out (by omega)
          obtain ⟨e1, e2⟩ := hcells k _ (List.getElem?_eq_getElem hlt)
          have hnw : ¬ Wr g4 := fun h => by have := (hWn _ h).2; omega
          have hblk := hkn.low g4 hg4z hnw
          rw [← cell_same hblk] at e1 e2
          have hTv : FTabs wr := hTV'.out.kept hL (fun j hj => hkn.low j (by omega) (fun h => by have := (hWn _ h).1; omega))
          have hyl := hlens'.out _ (List.getElem_mem hlt)
          have htk := fieldsL_take hlt
          have hal : Below wr.heap.size wr (wr.alloc (.cells (lineC ls[k]) 92)) := (Below.refl _ _).alloc (Nat.le_refl _) _
          have hsd := Lib.hid ((callsIn_wide (n := n - 1)).2 (said_any ls[k] (wr.alloc (.cells (lineC ls[k]) 92)) hyl (hTv.1.below hal) (hTv.2.1.below hal) (hTv.2.2.1.below hal)))
          unfold SaidR lineC at hsd
          have hal' := Lib.hid hal
          have hj' := Lib.hid hj
          have hkn' := Lib.hid hkn
          have hlenN : ∀ fld, saidL ls[k] = some fld → (fieldsL (ls.take k)).length < (fieldsL ls).length := fun fld h => by
            have h1 := fieldsL_pre ls (k + 1)
            have h2 := congrArg List.length h1
            rw [htk, h] at h2
            simp only [List.length_append, List.length_take, Option.toList_some, List.length_singleton] at h2
            omega
          have hlenN' := Lib.hid hlenN
          have htk' := Lib.hid htk
          clear hj hkn hal hTv hyl hlenN htk hblk
          generalize ls[k] = y at *
          obtain ⟨y1, y2⟩ := y
          gi_wp2_with fail
          refine hsd.out.mono ?_
          rintro e w5 ⟨⟨f, rfl, hf⟩, hb5⟩
          have hb6 : Below wr.heap.size wr (w5.alloc (.cells (fdC f) 104)) := (hal'.out.trans (hb5.mono hal'.out.size)).alloc (by have h2 := hb5.size; simp at h2; omega) _
          have hb6' := Lib.hid hb6
          have kf := Has.new w5 104 (fdC f)
          have x0 := kf.cell 0
          have x1 := kf.cell 1
          have x2 := kf.cell 2
          unfold fdC at x0 x1 x2
          cases hsy : saidL (y1, y2) with
          | none =>
            have htk2 := Lib.hid (show fieldsL (ls.take (k + 1)) = fieldsL (ls.take k) by rw [htk'.out, hsy]; simp)
            have hsome : (none : Option FdT).isSome = false := rfl
            clear hf hsd hsy hb6 kf
            unfold fdC
            gi_wp2
            exact ⟨⟨k + 1, by first | rfl | go_num, by omega, by rw [htk2.out]; exact hJ'.out _ _ _ _ hj'.out hb6'.out, hkn'.out.trans (KeepN.below hb6'.out (hkn'.out.size))⟩, by simp [intOf]; omega⟩
          | some fld =>
            obtain rfl := hf _ hsy
            have htk2 := Lib.hid (show fieldsL (ls.take (k + 1)) = fieldsL (ls.take k) ++ [f] by rw [htk'.out, hsy]; simp)
            have hlN := hlenN'.out _ hsy
            obtain ⟨fn, tmps, assign, body, hy, hR⟩ := hY'.out V1 (fieldsL (ls.take k)) f (w5.alloc (.cells (fdC f) 104)) hR1'.out (by have h1 := hkn'.out.size; have h2 := hb6.size; omega) (hJ'.out _ _ _ _ hj'.out hb6) hlN ⟨(fieldsL (ls.take (k + 1))).length, by rw [htk2.out]; simp, by rw [← htk2.out]; exact fieldsL_pre ls (k + 1)⟩
            have hy' : (Instr.yield l #[.agg (fdC f)]).run Tryz.prog (w5.alloc (.cells (fdC f) 104)) = .ok (Next.round l fn tmps assign body) (w5.alloc (.cells (fdC f) 104)) := hy
            have hR' := Lib.hid hR
            clear hy hR hf hsd hsy hb6 kf
            unfold fdC at hy' hR' ⊢
            gi_wp2
            refine hR'.out.mono ?_
            rintro e W3 ⟨hk3, (⟨rfl, hJ3, hkn3⟩ | ⟨rfl, hJx3⟩)⟩
            · have hF := Lib.hid (show FAt V1 J Wr ls (k + 1) W3 from ⟨by omega, by rw [htk2.out]; exact hJ3, (hkn'.out.trans (KeepN.below hb6'.out (hkn'.out.size))).trans hkn3⟩)
              clear hk3 hJ3 hkn3
              gi_wp2
              exact ⟨⟨k + 1, by first | rfl | go_num, hF.out⟩, by simp [intOf]; omega⟩
            · have hJ4 := Lib.hid hJx3
              clear hk3 hJx3
              gi_wp2
              refine bodyPost_ret (results_none rfl _ _ _) rfl ?_
              refine ⟨⟨_, rfl⟩, V1, hR1'.out, .inr ⟨_, ⟨(fieldsL (ls.take (k + 1))).length, ?_, ?_⟩, hJ4.out⟩⟩
              · rw [htk2.out]; simp
              · rw [← htk2.out]; exact fieldsL_pre ls (k + 1)
        · obtain rfl : k = ls.length := by omega
          have hF := Lib.hid (show FAt V1 J Wr ls ls.length wr from ⟨hkl, hj, hkn⟩)
          gi_wp2
          exact ⟨.inr ⟨rfl, V1, hR1'.out, hF.out⟩, by simp [intOf]⟩
    · obtain ⟨_, hj, hk⟩ := hF
      gi_wp2
      go_end0
      refine ⟨⟨_, rfl⟩, V1, hR1, .inl ⟨_, rfl, ?_, hk⟩⟩
      rwa [List.take_length] at hj
end Go.Proofs.YtlcfpnegpihicaaGreatDoor
