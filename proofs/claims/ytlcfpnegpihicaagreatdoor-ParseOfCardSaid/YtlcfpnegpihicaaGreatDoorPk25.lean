import Derived.Test.YtlcfpnegpihicaaGreatDoorPk3
import Derived.Test.YtlcfpnegpihicaaGreatDoorPk4
import Derived.Test.YtlcfpnegpihicaaGreatDoorPk24
import Derived.Test.YtlcfpnegpihicaaGreatDoorPk18
import Derived.LaidMore
import Derived.Lay
import Derived.Stop.Joined
import Derived.Deep.Slices
import Derived.Deep.Fields
import Derived.Lib.SmallJoins
namespace Go.Proofs.YtlcfpnegpihicaaGreatDoor
open Go.ChangeShapes Go.WideShapes Go.ChangeAt Go.RowKit Go.Deep

/-! ## The rows' eight tables -/
theorem laid_head1 {P : Program} {n : String} {d : DataW Unit} {rest : List (String × DataW Unit)} {W : World} (h : laidMet P ((n, d) :: rest) W) : laidMet P [(n, d)] W := by
  obtain ⟨ps, ⟨g, t, cs, fuel, p, q, h1, h2, h3, h4, h5, rfl⟩, hn, hc⟩ := h
  exact ⟨_, ⟨g, t, cs, fuel, p, [], h1, h2, h3, h4, rfl, rfl⟩, by simpa using (List.nodup_append.1 hn).1, fun b off hm => hc b off (List.mem_append_left _ (by simpa using hm))⟩
theorem gSigns : Tryz.prog.globalNamed "bellman/event.signs" = some 1 := by kernel_rfl
theorem gSignsType : (Tryz.prog.globals[1]?).map (·.type) = some 176 := by kernel_rfl
theorem cellsSigns : Tryz.prog.cellsOf 176 = 3 := by kernel_rfl
theorem gEnds : Tryz.prog.globalNamed "bellman/lines.ends" = some 2 := by kernel_rfl
theorem gEndsType : (Tryz.prog.globals[2]?).map (·.type) = some 213 := by kernel_rfl
theorem cellsEnds : Tryz.prog.cellsOf 213 = 2 := by kernel_rfl
theorem gGreat : Tryz.prog.globalNamed "bellman/parse.greatest" = some 0 := by kernel_rfl
theorem gGreatType : (Tryz.prog.globals[0]?).map (·.type) = some 69 := by kernel_rfl
theorem cellsGreat : Tryz.prog.cellsOf 69 = 2 := by kernel_rfl
theorem ends_of {W : World} (h : laidMet Tryz.prog [("bellman/lines.ends", Rows.laid_bellman_lines_ends)] W) : Ends W := by
  obtain ⟨ps, ⟨g', t', cs, fuel, p, q, hg', ht', hvar, hd, _, hps⟩, _, hcells⟩ := h
  obtain rfl := Option.some.inj (gEnds.symm.trans hg')
  obtain rfl := Option.some.inj (gEndsType.symm.trans ht')
  have hl : cs.toList = [13, 10].map fun z => Value.int .u8 z := Lib.cells_of_tab Tryz.underlying213 Tryz.underlying5 cells8 cellsEnds hd
  have hlen : cs.size = 2 := by have := congrArg List.length hl; simpa using this
  have hrow : MemPlace.cell 2 0 ∈ ps := by
    rw [hps, hlen]
    refine List.mem_append_left _ (List.mem_append_left _ ?_)
    decide
  obtain ⟨⟨c, t, hc⟩, _⟩ := hcells _ _ hrow
  have hcs : c = cs := by
    simp only [World.var?, gEnds, Option.bind_some] at hvar
    rw [hc] at hvar
    simpa using hvar
  subst hcs
  refine ⟨t, c, hc, ?_, ?_⟩
  · rw [← Array.getElem?_toList, hl]; rfl
  · rw [← Array.getElem?_toList, hl]; rfl
theorem great_of {W : World} (h : laidMet Tryz.prog [("bellman/parse.greatest", Rows.laid_bellman_parse_greatest)] W) : GrT W := by
  obtain ⟨ps, ⟨g', t', cs, fuel, p, q, hg', ht', hvar, hd, _, hps⟩, _, hcells⟩ := h
  obtain rfl := Option.some.inj (gGreat.symm.trans hg')
  obtain rfl := Option.some.inj (gGreatType.symm.trans ht')
  have hl : cs.toList = [65536, 65536].map fun z => Value.int .i64 z := Lib.cells_of_tab Tryz.underlying69 Tryz.underlying3 cells64 cellsGreat hd
  have hlen : cs.size = 2 := by have := congrArg List.length hl; simpa using this
  have hrow : MemPlace.cell 0 0 ∈ ps := by
    rw [hps, hlen]
    refine List.mem_append_left _ (List.mem_append_left _ ?_)
    decide
  obtain ⟨⟨c, t, hc⟩, _⟩ := hcells _ _ hrow
  have hcs : c = cs := by
    simp only [World.var?, gGreat, Option.bind_some] at hvar
    rw [hc] at hvar
    simpa using hvar
  subst hcs
  have he : c = #[.int .i64 65536, .int .i64 65536] := by
    apply Array.toList_inj.1
    rw [hl]; rfl
  exact ⟨t, by rw [← he]; exact hc⟩
theorem cell_lt {W : World} {k i : Nat} {v : Value} (h : W.cell? ⟨k, i, none⟩ = some v) : k < W.heap.size := by
  unfold World.cell? at h
  by_cases hg : k < W.heap.size
  · exact hg
  · rw [Array.getElem?_eq_none (by show W.heap.size ≤ k; omega)] at h; cases h
/-- What the rows' list gives. -/
theorem tablesP {W : World} (h : laidMetH Tryz.prog [("unicode/utf8.acceptRanges", Rows.laid_unicode_utf8_acceptRanges), ("bellman/decimal.bases", Rows.laid_bellman_decimal_bases), ("bellman/utf.leads", Rows.laid_bellman_utf_leads), ("bellman/field.names", Rows.laid_bellman_field_names), ("bellman/event.signs", Rows.laid_bellman_event_signs), ("bellman/lines.ends", Rows.laid_bellman_lines_ends), ("bellman/parse.greatest", Rows.laid_bellman_parse_greatest), ("unicode/utf8.first", Rows.laid_unicode_utf8_first)] W) : Tab W ∧ TabU W ∧ NamesT W ∧ SgT W ∧ Ends W ∧ GrT W := by
  have h0 : laidMet Tryz.prog [("unicode/utf8.acceptRanges", Rows.laid_unicode_utf8_acceptRanges), ("bellman/decimal.bases", Rows.laid_bellman_decimal_bases), ("bellman/utf.leads", Rows.laid_bellman_utf_leads), ("bellman/field.names", Rows.laid_bellman_field_names), ("bellman/event.signs", Rows.laid_bellman_event_signs), ("bellman/lines.ends", Rows.laid_bellman_lines_ends), ("bellman/parse.greatest", Rows.laid_bellman_parse_greatest), ("unicode/utf8.first", Rows.laid_unicode_utf8_first)] W := h
  have h1 := laid_tail1 h0
  have h2 := laid_tail1 h1
  have h3 := laid_tail1 h2
  have h4 := laid_tail1 h3
  have h5 := laid_tail1 h4
  have h6 := laid_tail1 h5
  have t : Lib.TabIs Tryz.prog W "bellman/decimal.bases" .u64 [10, 16] :=
    Lib.tabIs_of_head gBases gBasesType Tryz.underlying229 Tryz.underlying38 cellsU64 cellsBases h1
  have s : Lib.TabIs Tryz.prog W "bellman/event.signs" .u8 [13, 10, 0] :=
    Lib.tabIs_of_head gSigns gSignsType Tryz.underlying176 Tryz.underlying5 cells8 cellsSigns h4
  exact ⟨⟨t.cell gBases 0 (by decide), t.cell gBases 1 (by decide)⟩, tableU (laid_head1 h2), names_of h3, ⟨s.cell gSigns 0 (by decide), s.cell gSigns 1 (by decide), s.cell gSigns 2 (by decide)⟩, ends_of (laid_head1 h5), great_of (laid_head1 h6)⟩
theorem psT_of {W : World} (h : Tab W ∧ TabU W ∧ NamesT W ∧ SgT W ∧ Ends W ∧ GrT W) (hs : W.ShapedOpen Tryz.prog) : PsT0 W := by
  obtain ⟨h1, h2, h3, h4, h5, h6⟩ := h
  have hm := maxT_of hs
  refine ⟨⟨h3, hm, h1, h2, h5⟩, h6, ⟨h2, h4, h3, hm⟩, ?_⟩
  refine ⟨?_, ?_, cell_lt h1.1, h2.lt, h5.lt⟩
  · obtain ⟨t, h⟩ := h3; exact (Array.getElem?_eq_some_iff.1 h).1
  · obtain ⟨t, h⟩ := hm; exact h.lt
/-- A world for the witness. -/
noncomputable def laidWorldP (os : Os) : World := World.laidAll Tryz.prog os Rows.parsePiecesRow.laid
end Go.Proofs.YtlcfpnegpihicaaGreatDoor

namespace Go.Proofs.YtlcfpnegpihicaaGreatDoor
open Go.ChangeShapes Go.WideShapes Go.ChangeAt Go.RowKit Go.Deep

/-! ## Bytes that came in, opened -/
theorem bytes_of {H : Type} {enc : TypeId × Value → H} {W : World} {held : Bool} {fuel : Nat} {A : Option Addr} {len cap : Nat} {y : DataW H × List MemPlace} (h : DataW.trod enc Tryz.prog W 0 (fun _ => true) held fuel 22 [.slice A len cap] = some y) :
    ∃ l : List UInt8, len = l.length ∧ Rd W (· < W.heap.size) A l ∧ len ≤ cap ∧ cap ≤ maxLen := by
  rcases open_ints Tryz.underlying22 Tryz.underlying5 cells8 h with ⟨hcs, _⟩ | ⟨a, n, c, zs, hcs, _, hl, hm, hz, hx, hcell, hwz⟩
  · injection hcs with hcs
    injection hcs with h1 h2 h3
    subst h1; subst h2; subst h3
    exact ⟨[], rfl, fun h => absurd h (by simp), Nat.le_refl _, Nat.zero_le _⟩
  · injection hcs with hcs
    injection hcs with h1 h2 h3
    subst h1; subst h2; subst h3
    simp only [if_true] at hz
    have hll : ((zs.take len).map fun z => UInt8.ofNat z.toNat).length = len := by simp; omega
    refine ⟨(zs.take len).map fun z => UInt8.ofNat z.toNat, hll.symm, fun h0 => ?_, hl, hm⟩
    replace h0 : 0 < len := by rw [hll] at h0; exact h0
    refine ⟨a, rfl, World.block_lt_of_cell? W _ (by have := hcell 0 (by omega); simpa [Addr.add] using this), fun j u hu => ?_⟩
    obtain ⟨hj, rfl⟩ := byts_get hu
    replace hj : j < len := by rw [hll] at hj; exact hj
    rw [hcell j (by omega)]
    have hb := hwz (zs[j]'(by omega)) (List.getElem_mem _)
    have hb2 := bounds_u8 hb
    simp only [List.getElem_map, List.getElem_take, byt]
    rw [List.getD_eq_getElem?_getD, List.getElem?_eq_getElem (by omega)]
    simp only [Option.getD_some]
    congr 2
    rw [UInt8.toNat_ofNat']
    omega
end Go.Proofs.YtlcfpnegpihicaaGreatDoor
