import Derived.Test.YtlcfpnegpihicaaGreatDoorPw11
namespace Go.Proofs.YtlcfpnegpihicaaGreatDoor
open Go.RowKit Go.Maps

/-! ## Fields, compared; the chapter's rows -/
theorem field_lits (ki : Int) (a b : List UInt8) (hk : (Lit.int .i64 ki).wf = true) (ha : a.length ≤ 1000000) (hb : b.length ≤ 1000000) : Tryz.prog.keyLits 2 104 [.int .i64 ki, .string ⟨a.toArray⟩, .string ⟨b.toArray⟩] = some [.int .i64 ki, .string a, .string b] := by
  have k1 : Tryz.prog.cellsOf 9 = 1 := by kernel_rfl
  have k2 : Tryz.prog.cellsOf 104 = 3 := by kernel_rfl
  have k3 : Tryz.prog.cellsOf 102 = 1 := by kernel_rfl
  have hz (a : List UInt8) (ha : a.length ≤ 1000000) : (⟨a.toArray⟩ : ByteArray).size ≤ maxLen := by
    show a.toArray.size ≤ _
    simp [maxLen]; omega
  have hz1 := hz a ha
  have hz2 := hz b hb
  simp [Program.keyLits, Tryz.underlying104, Tryz.underlying9, Tryz.underlying102, k1, k2, k3, hz1, hz2, hk]
theorem field_equal (f g : Int × List UInt8 × List UInt8) (hf : (Lit.int .i64 f.1).wf = true) (hg : (Lit.int .i64 g.1).wf = true) (h1 : f.2.1.length ≤ 1000000) (h2 : f.2.2.length ≤ 1000000) (h3 : g.2.1.length ≤ 1000000) (h4 : g.2.2.length ≤ 1000000) (w : World) :
    (Op.equalIn 10000 104 (fieldV f) (fieldV g)).run Tryz.prog w = .ok (decide (f = g)) w := by
  obtain ⟨k, a, b⟩ := f
  obtain ⟨m, c, d⟩ := g
  unfold fieldV
  simp only at hf hg h1 h2 h3 h4 ⊢
  obtain ⟨r, hr, hiff⟩ := run_equalIn_deep (P := Tryz.prog) 9998 2 104 (by kernel_rfl) w 2 2 (.agg #[.int .i64 k, .string ⟨a.toArray⟩, .string ⟨b.toArray⟩]) (.agg #[.int .i64 m, .string ⟨c.toArray⟩, .string ⟨d.toArray⟩]) _ _ (by kernel_rfl) (by kernel_rfl) (field_lits k a b hf h1 h2) (field_lits m c d hg h3 h4)
  rw [hr]
  have : r = decide ((k, a, b) = (m, c, d)) := by
    cases r with
    | true =>
      have := hiff.1 rfl
      simp at this
      exact (decide_eq_true (by rw [this.1, this.2.1, this.2.2])).symm
    | false =>
      refine (decide_eq_false (fun h => ?_)).symm
      injection h with h1 h2
      injection h2 with h2 h3
      have := hiff.2 (by rw [h1, h2, h3])
      cases this
  rw [this]
end Go.Proofs.YtlcfpnegpihicaaGreatDoor
