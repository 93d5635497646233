import Derived.Test.YtcogdfgmmpfkkaaGreatDoorPk6
import Derived.Laws.MakeOwn
namespace Go.Proofs.YtcogdfgmmpfkkaaGreatDoor
open Go.RowKit
attribute [local go_sem] Oper.semAt_some

/-! ## A text, decoded -/
def lenV : Value → Nat
  | .slice _ n _ => n
  | _ => 0
/-- What a call tells that may give up: a value, or what it gave up by. -/
def DecT (o : Option (List UInt8)) (w : World) (e : Ending) (w' : World) : Prop := (match o with
  | some l => e = .returned (.string ⟨l.toArray⟩)
  | none => e = gaveE 210) ∧ Below w.heap.size w w'
theorem decT_len (plus : Bool) : ∀ (n : Nat) {s d : List UInt8}, s.length ≤ n → decL plus s = some d → d.length ≤ s.length
  | 0, s, d, h, hd => by
    obtain rfl : s = [] := List.length_eq_zero_iff.1 (by omega)
    obtain rfl : [] = d := by simpa [decL] using hd
    exact Nat.le_refl _
  | n + 1, [], d, h, hd => by
    obtain rfl : [] = d := by simpa [decL] using hd
    exact Nat.le_refl _
  | n + 1, c :: r, d, h, hd => by
    by_cases h37 : c = 37
    · subst h37
      rcases r with _ | ⟨a, _ | ⟨b, r⟩⟩
      · simp [decL] at hd
      · simp [decL] at hd
      · rw [decL_pct] at hd
        by_cases hx : 15 < hexN a ∨ 15 < hexN b
        · rw [if_pos hx] at hd; simp at hd
        · rw [if_neg hx] at hd
          obtain ⟨x, hx, rfl⟩ := Option.map_eq_some_iff.1 hd
          have := decT_len plus n (s := r) (by simp at h; omega) hx
          simp; omega
    · rw [decL_other plus r h37] at hd
      obtain ⟨x, hx, rfl⟩ := Option.map_eq_some_iff.1 hd
      have := decT_len plus n (s := r) (by simp at h; omega) hx
      simp; omega
set_option maxRecDepth 100000 in
set_option maxHeartbeats 4000000 in
theorem decoded_any (plus : Bool) (s : List UInt8) (w : World) (hT : Tab w) (hs : s.length ≤ 600000) : Calls Tryz.prog 32 #[.string ⟨s.toArray⟩, .bool plus] w (DecT (decL plus s) w) := by
  rw [decL_goD]
  have hgk : Hid (0 < w.heap.size) := Lib.hid hT.lt
  have hT' := Lib.hid hT
  obtain ⟨i, hi, hz, hz1, hz2⟩ := info_parts infoB
  obtain ⟨w2, hrun, hown, hgr⟩ := run_make_own (P := Tryz.prog) (w := w.alloc (.cells #[.string ⟨s.toArray⟩, .bool plus] 92)) (w.heap.size + 1) 59 5 i _ 1 Tryz.underlying59 hi hz hz1 .i64 .i64 s.length (by rw [hz2]; omega) (by simp only [maxLen]; omega) (by simp)
  have hnew := Has.new w 92 #[.string ⟨s.toArray⟩, .bool plus]
  have hn2 : Hid (RdT w2 w.heap.size s plus) := Lib.hid (hgr.block w.heap.size (by simp) (by simp) |>.trans hnew)
  have hb2 : Hid (Below w.heap.size w w2) := Lib.hid (((Below.refl _ w).alloc (Nat.le_refl _) _).grown hgr (by simp) (by intro k hk; cases hk))
  have hown' : Hid (Bs w2 (w.heap.size + 1) (.slice (some ⟨(w.alloc (.cells #[.string ⟨s.toArray⟩, .bool plus] 92)).heap.size, 0, none⟩) 0 s.length) []) := Lib.hid hown
  rw [World.size_alloc] at hrun hown'
  clear hnew hgr hown hi hz hz1 hz2 hT
  have hsI : (s.length : Int) ≤ 600000 := by omega
  go_enter Tryz.func32, Tryz.ntmps32
  go_wp2
  go_loopw [6] (fun v W => ∃ (done r : List UInt8), RdT W w.heap.size r plus ∧ Bs W (w.heap.size + 1) v done ∧ goD plus [] s = goD plus done r ∧ done.length + r.length ≤ s.length ∧ Below w.heap.size w W) (fun v _ => s.length - lenV v)
  case atStart => exact ⟨[], s, hn2.out, hown'.out, rfl, by simp, hb2.out⟩
  case round =>
    obtain ⟨done, r, hrd, hbs, hgo, hdl, hb⟩ := hrel
    have hb' := Lib.hid hb
    have hz3 := Lib.hid hb.size
    obtain ⟨Av, cv, hv, hrdv⟩ := hbs.shape
    subst hv
    have hbs' := Lib.hid hbs
    have hcv := Lib.hid (hrdv.text (P := Tryz.prog) 59 9 5 cv Tryz.underlying59 Tryz.underlying5 Tryz.underlying9)
    have hrd' := Lib.hid hrd
    have hkz := hrd.lt
    clear hbs hb hrdv hrun hn2 hb2 hown' hrd
    cases r with
    | nil =>
      have h0 := Lib.hid (endedT_yes w.heap.size plus wr hrd'.out)
      have hgo' := Lib.hid (hgo.trans (goD_nil plus done))
      have hcv' := hcv.out
      clear hgo hcv
      go_wp2_with (go_at_call 57; (with_reducible refine Calls.mono h0.out ?_); rintro e w7 ⟨rfl, hw7⟩; obtain rfl := hw7.symm)
      go_ret
      rw [hgo'.out]
      exact ⟨rfl, hb'.out⟩
    | cons c r =>
      have hl : done.length + r.length + 1 ≤ s.length := by simp at hdl; omega
      have h0 := Lib.hid (endedT_no w.heap.size c r plus wr hrd'.out)
      have h1 := Lib.hid (nextT_any plus c w.heap.size r wr (hT'.out.below hb'.out) (by omega) hrd'.out hgk.out)
      obtain ⟨o, ho⟩ : ∃ o, nextL plus (c :: r) = o := ⟨_, rfl⟩
      rw [ho] at h1
      cases o with
      | none =>
        have hgo' := Lib.hid (hgo.trans (goD_none done ho))
        simp only at h1
        clear hgo hcv ho
        go_wp2_with (first
          | (go_at_call 57; (with_reducible refine Calls.mono h0.out ?_); rintro e w7 ⟨rfl, hw7⟩; obtain rfl := hw7.symm)
          | (go_at_call 58; (with_reducible refine Calls.mono h1.out ?_); rintro e w3 ⟨rfl, hb3⟩; have hb3' := Lib.hid hb3; clear hb3))
        rw [hgo'.out]
        exact ⟨rfl, rfl, hb'.out.trans (hb3'.out.lower hkz)⟩
      | some x =>
        obtain ⟨hg1, hg2⟩ := goD_next done ho
        have hgo' := Lib.hid (hgo.trans hg1)
        have hrl := Lib.hid hg2
        simp only at h1
        have hnewB : ∀ W : World, Hid (Rd (W.alloc (.cells #[.int .u8 (x.1.toNat : Int)] 5)) (· = W.heap.size) (some ⟨W.heap.size, 0, none⟩) [x.1]) := fun W => Lib.hid (by have := new_byte W x.1.toNat x.1.toNat_lt; rwa [UInt8.ofNat_toNat] at this)
        have hbsA : ∀ W3, Grew w.heap.size wr W3 → Hid (Bs (W3.alloc (.cells #[.int .u8 (x.1.toNat : Int)] 5)) (w.heap.size + 1) (.slice Av done.length cv) done) := fun W3 h3 => Lib.hid (by
          have h4 := h3.alloc (.cells #[.int .u8 (x.1.toNat : Int)] 5)
          refine hbs'.out.kept fun g hg => ?_
          obtain ⟨e1, _, e2⟩ := hbs'.out.own g hg
          exact h4.block g e2.lt (by omega))
        clear hgo hcv ho hg1 hg2
        go_wp2_with (first
          | (go_at_call 57; (with_reducible refine Calls.mono h0.out ?_); rintro e w7 ⟨rfl, hw7⟩; obtain rfl := hw7.symm)
          | (go_at_call 58; (with_reducible refine Calls.mono h1.out ?_); rintro e w3 ⟨⟨rfl, hrd3⟩, hb3⟩; have hb3' := Lib.hid hb3; have hrd3' := Lib.hid hrd3; have hz4 := Lib.hid hb3.size; clear hb3 hrd3)
          | (at_builtin; refine wpList_append_rd rfl _ _ rfl rfl (hbsA _ hb3'.out).out (· = w3.heap.size) (some ⟨w3.heap.size, 0, none⟩) [x.1] 1 1 rfl rfl (hnewB w3).out (by simp; omega) (by have := hz4.out; simp; omega) ?_; intro v8 w8 ho8 hg8; have ho8' := Lib.hid ho8; have hg8' := Lib.hid hg8; clear ho8 hg8))
        have hG := (hb3'.out.alloc (.cells #[.int .u8 (x.1.toNat : Int)] 5)).lower hkz
        have hg9 : World.grownBy (w3.alloc (.cells #[.int .u8 (x.1.toNat : Int)] 5)) w8 (Value.slice Av done.length cv).ownBlock := hg8'.out
        have hk3 := hrd3'.out.lt
        have hown : ∀ g, (Value.slice Av done.length cv).ownBlock = some g → w.heap.size + 1 ≤ g := fun g e => (hbs'.out.own g e).1
        have hrd8 : RdT w8 w.heap.size x.2 plus := by
          have h1 := hg9.block w.heap.size (by simp; omega) (fun e => by have := hown _ e.symm; omega)
          exact h1.trans (Has.alloc hrd3'.out _)
        have hB8 := (hb'.out.trans hG).grown hg9 (by have := hz4.out; simp; omega) (fun g e => by have := hown g e; omega)
        refine ⟨⟨done ++ [x.1], x.2, hrd8, ho8'.out, hgo'.out, ?_, hB8⟩, ?_⟩
        · have := hrl.out
          rw [List.length_append, List.length_singleton]
          omega
        · obtain ⟨A8, c8, e8, _⟩ := ho8'.out.shape
          rw [e8]
          simp only [lenV, List.length_append, List.length_singleton]
          omega
end Go.Proofs.YtcogdfgmmpfkkaaGreatDoor
