import Derived.Test.YtfblkfjjpnnhhaaDoorJ
namespace Go.Proofs.YtfblkfjjpnnhhaaDoor
open Go.RowKit

/-! ## Calls, as they are handed in -/
structure Deed where
  what : Int
  n : Int
  a : Part
  b : Part
def Sound (W : World) (S : Nat → Prop) (p : Part) : Prop := Rd W S p.A p.l ∧ p.l.length ≤ p.c ∧ p.c ≤ 140737488355328
theorem Sound.kept {W W' : World} {S : Nat → Prop} {p : Part} (h : Sound W S p) (k : Kept S W W') : Sound W' S p := ⟨h.1.kept k, h.2⟩
/-- What one call is. -/
def DeedAt (W : World) (b o : Nat) (d : Deed) : Prop :=
  W.cell? ⟨b, o, none⟩ = some (.int .i64 d.what) ∧ W.cell? ⟨b, o + 1, none⟩ = some (.int .i64 d.n) ∧ W.cell? ⟨b, o + 2, none⟩ = some d.a.val ∧ W.cell? ⟨b, o + 3, none⟩ = some d.b.val
def DeedOk (W : World) (S : Nat → Prop) (d : Deed) : Prop := Sound W S d.a ∧ Sound W S d.b ∧ (-9223372036854775808 ≤ d.what ∧ d.what ≤ 9223372036854775807) ∧ (-9223372036854775808 ≤ d.n ∧ d.n ≤ 9223372036854775807)
/-- A slice of calls. -/
def Deeds (W : World) (S : Nat → Prop) (A : Option Addr) (ds : List Deed) : Prop :=
  (0 < ds.length → ∃ b o, A = some ⟨b, o, none⟩ ∧ S b ∧ ∀ i d, ds[i]? = some d → DeedAt W b (o + i * 4) d) ∧ ∀ d ∈ ds, DeedOk W S d
def fewB (many : Nat) (ds : List Deed) : Bool := decide (ds.length ≤ many ∧ ∀ d ∈ ds, d.a.l.length + d.b.l.length ≤ 300)
theorem few_any (A : Option Addr) (S : Nat → Prop) (ds : List Deed) (np cp many : Nat) (w : World) (h : Deeds w S A ds) (hnp : np = ds.length) (hcap : np ≤ 140737488355328) (hm : many ≤ 60) :
    Calls Tryd.prog 7 #[.slice A np cp, .int .i64 (many : Int)] w fun e w' => e = .returned (.bool (fewB many ds)) ∧ ∃ q, w' = w.drewN q := by
  have h' := Lib.hid h
  have hnp' := Lib.hid hnp
  clear h hnp
  go_enter Tryd.func7, Tryd.ntmps7
  go_wp2
  go_loopw [5] (fun i wr => ∃ k q : Nat, k ≤ np ∧ k ≤ many + 1 ∧ i = .int .i64 k ∧ wr = w.drewN q ∧ ∀ d ∈ ds.take k, d.a.l.length + d.b.l.length ≤ 300) (fun i _ => np - (intOf i).toNat)
  case atStart => exact ⟨0, 0, Nat.zero_le _, Nat.zero_le _, rfl, rfl, fun d hd => by simp at hd⟩
  case round =>
    obtain ⟨k, q, hk, hkm, rfl, rfl, hall⟩ := hrel
    have hall' := Lib.hid hall
    clear hall
    by_cases h1 : k < np ∧ k ≤ many
    · obtain ⟨hlt, hle⟩ := h1
      have hkl : k < ds.length := by have := hnp'.out; omega
      obtain ⟨b, o, rfl, hS, hc⟩ := h'.out.1 (by omega)
      obtain ⟨_, _, hca, hcb⟩ := hc k _ (List.getElem?_eq_getElem hkl)
      obtain ⟨⟨_, ha1, ha2⟩, ⟨_, hb1, hb2⟩, _, _⟩ := h'.out.2 _ (List.getElem_mem hkl)
      have hts := Lib.hid (take_succ_ ds k hkl)
      have hmem := Lib.hid (List.getElem_mem hkl)
      have ca : w.cell? ⟨b, o + k * 4 + 2, none⟩ = some (.slice ds[k].a.A ds[k].a.l.length ds[k].a.c) := hca
      have cb : w.cell? ⟨b, o + k * 4 + 3, none⟩ = some (.slice ds[k].b.A ds[k].b.l.length ds[k].b.c) := hcb
      generalize ds[k] = d at ca cb ha1 ha2 hb1 hb2 hts hmem
      generalize hla : d.a.l.length = la at ca ha1
      generalize hlb : d.b.l.length = lb at cb hb1
      have hla' := Lib.hid hla
      have hlb' := Lib.hid hlb
      have hw : IntKind.i64.wrap ((la : Int) + (lb : Int)) = (la : Int) + (lb : Int) := by rw [IntKind.wrap_i64]; omega
      clear hca hcb hc hS hla hlb
      by_cases h3 : la + lb ≤ 300
      · have hd : decide ((300 : Int) < (la : Int) + (lb : Int)) = false := by rw [decide_eq_false_iff_not]; omega
        go_wp2
        go_quiet (fail)
        go_wp2
        go_roundw
        case rel => exact ⟨k + 1, _, by omega, by omega, by go_num, rfl, fun x hx => by
          rw [hts.out] at hx
          rcases List.mem_append.1 hx with hx | hx
          · exact hall'.out x hx
          · rw [List.mem_singleton.1 hx, hla'.out, hlb'.out]; exact h3⟩
        case measure => simp [intOf]; omega
      · have hd : decide ((300 : Int) < (la : Int) + (lb : Int)) = true := by rw [decide_eq_true_iff]; omega
        go_wp2
        go_quiet (fail)
        go_wp2
        go_ret
        refine ⟨?_, _, World.drewN_drewN _ _ _⟩
        rw [fewB, decide_eq_false (fun h => h3 (by have := h.2 _ hmem.out; rw [hla'.out, hlb'.out] at this; exact this))]
        rfl
    · have hend : Hid (fewB many ds = decide (np ≤ many)) := by
        show _ = _
        unfold fewB
        have e := hnp'.out
        by_cases hle : ds.length ≤ many
        · rw [decide_eq_true (show np ≤ many by omega)]
          refine decide_eq_true ⟨hle, fun d hd => hall'.out d ?_⟩
          rw [List.take_of_length_le (by omega)]
          exact hd
        · rw [decide_eq_false (show ¬ np ≤ many by omega)]
          exact decide_eq_false (fun h => hle h.1)
      have hor : np ≤ k ∨ many < k := by omega
      by_cases h2 : k < np
      · have h3 : many < k := by omega
        have h4 : ¬ np ≤ many := by omega
        go_wp2
        go_ret
        exact ⟨by rw [hend.out, decide_eq_false h4]; simp, q, rfl⟩
      · have h3 : np ≤ k := by omega
        go_wp2
        go_ret
        exact ⟨by rw [hend.out]; simp, q, rfl⟩
end Go.Proofs.YtfblkfjjpnnhhaaDoor
