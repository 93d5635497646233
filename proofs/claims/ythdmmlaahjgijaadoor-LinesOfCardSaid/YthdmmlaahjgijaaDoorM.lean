import Derived.Test.YthdmmlaahjgijaaDoorI
import Derived.Test.YthdmmlaahjgijaaDoorJ
namespace Go.Proofs.YthdmmlaahjgijaaDoor
open Go.RowKit Go.Shelf
attribute [local go_sem] Oper.semAt_some
attribute [local go_sem] wide_fn wide_depth wide_round

/-! ## Sound -/
instance (l : List UInt8) : Decidable (SoundL l) := inferInstanceAs (Decidable (_ = _))
def soundB (l : List UInt8) : Bool := decide (SoundL l)
def SdI (w : World) (s : ByteArray) (pre : List (Fin s.data.toList.length)) (W : World) : Prop :=
  (∀ x ∈ pre, (lookAt s.data.toList x.val).st = 0) ∧ Has W w.heap.size 4 #[.bool true] ∧ Below w.heap.size w W
def SdX (w : World) (s : ByteArray) (c : Code) (pre : List (Fin s.data.toList.length)) (W : World) : Prop :=
  c = .exit 0 ∧ (∃ x ∈ pre, (lookAt s.data.toList x.val).st ≠ 0) ∧ Has W w.heap.size 4 #[.bool false] ∧ Below w.heap.size w W
def SdM (w : World) (s : ByteArray) (W : World) : Prop := Has W w.heap.size 4 #[.bool (soundB s.data.toList)] ∧ Below w.heap.size w W
theorem sd_all {w W : World} {s : ByteArray} {xs : List (Fin s.data.toList.length)} (h : Part s.data.toList xs s.size) (hI : SdI w s xs W) : SdM w s W := by
  have hl : s.data.toList.length = s.size := by simp only [Array.length_toList]; rfl
  obtain ⟨h1, h2, h3⟩ := hI
  unfold Part at h
  rw [places_end (by omega), List.append_nil] at h
  have : soundB s.data.toList = true := by
    unfold soundB
    rw [decide_eq_true_eq, sound_places, ← h]
    intro p hp
    obtain ⟨x, hx, rfl⟩ := List.mem_map.1 hp
    exact h1 x hx
  exact ⟨by rw [this]; exact h2, h3⟩
theorem sd_left {w W : World} {s : ByteArray} {c : Code} {pre : List (Fin s.data.toList.length)} (h : ∃ p, p ≤ s.size ∧ Part s.data.toList pre p) (hI : SdX w s c pre W) : c = .exit 0 ∧ SdM w s W := by
  obtain ⟨p, _, hp⟩ := h
  obtain ⟨rfl, ⟨x, hx, hs⟩, h2, h3⟩ := hI
  have : soundB s.data.toList = false := by
    unfold soundB
    rw [decide_eq_false_iff_not, sound_places]
    intro hall
    refine hs (hall x.val ?_)
    unfold Part at hp
    rw [← hp]
    exact List.mem_append_left _ (List.mem_map_of_mem hx)
  exact ⟨rfl, by rw [this]; exact h2, h3⟩
set_option maxRecDepth 100000 in
set_option maxHeartbeats 4000000 in
theorem sound_any (s : ByteArray) (w : World) (hm : s.size ≤ 9223372036854775807) (hT : Tab w) : Calls Tryd.prog 14 #[.string s] w fun e w' => e = .returned (.bool (soundB s.data.toList)) ∧ Below w.heap.size w w' := by
  have hT' := Lib.hid hT
  have hg0 := hT.lt
  have hl' := Lib.hid (show s.data.toList.length = s.size by simp only [Array.length_toList]; rfl)
  clear hT
  refine (callsIn_wide (n := 3)).1 ?_
  refine callsIn_of_wp_marks Tryd.func14 rfl trivial ?_ rfl
  refine wpIn_wide.2 ?_
  simp only [Tryd.ntmps14, List.size_toArray, List.length_cons, List.length_nil, Nat.reduceAdd, Nat.reduceSub, Array.replicate_succ, Array.replicate_zero, List.push_toArray, List.append_toArray, List.nil_append, List.cons_append]
  go_wp2
  refine wp_scope_on 0 rfl ?_
  go_wp2_with fail
  go_step3
  go_wp2_with fail
  refine (readings_any _ _).mono ?_
  rintro e w5 ⟨rfl, rfl⟩
  have hB : Below w.heap.size w ((w.alloc (.cells #[.bool true] 4)).alloc (.cells #[.string s] 9)) := ((Below.refl _ _).alloc (Nat.le_refl _) _).alloc (by simp) _
  have k0 := (Has.new w 4 #[.bool true]).alloc (.cells #[.string s] 9)
  have k1 := Has.new (w.alloc (.cells #[.bool true] 4)) 9 #[.string s]
  simp only [World.size_alloc] at k1
  have hT5 := hT'.out.below hB
  have hB' := Lib.hid hB
  have k0' := Lib.hid k0
  have k1' := Lib.hid k1
  have hT5' := Lib.hid hT5
  clear hB k0 k1 hT5
  go_wp2
  have hB := hB'.out
  have k0 := k0'.out
  have k1 := k1'.out
  have hT5 := hT5'.out
  obtain ⟨w5, hw5⟩ : ∃ w5, (w.alloc (.cells #[.bool true] 4)).alloc (.cells #[.string s] 9) = w5 := ⟨_, rfl⟩
  have hz5 : w5.heap.size = w.heap.size + 1 + 1 := by rw [← hw5]; simp
  rw [hw5] at hB k0 k1 hT5 ⊢
  clear hw5 hB' k0' k1' hT5'
  refine (wpIn_wide (n := 3)).1 ?_
  refine wpIn_range_meetsH 0 rfl (by omega) (gf := 65) (lb := #[.pointer (some ⟨w.heap.size + 1, 0, none⟩)]) rfl trivial (enters_of Tryd.func65 (by kernel_rfl) rfl)
    (readings_stops 2 (by omega) s hm (w.heap.size + 1) (fun k => k = w.heap.size) w5 (fun k hk => by omega) (fun hk => by omega) (fun hk => by omega) hT5 k1)
    (fun h k => h.trans k) (fun W l o o' _ h1 h2 _ => KeepC.putObj W l o o' h1 h2) (Below.refl _ _) (fun _ => rfl)
    (SdI w s) (SdX w s) (SdM w s)
    (fun pre X Y row hs hg hr => ⟨hs.1, hs.2.1.row hg hr, (ownFrom_below (β := Unit) (Nat.le_refl _) (by omega)) () X Y row hs.2.2 hg hr⟩)
    (fun c pre X Y row hs hg hr => ⟨hs.1, hs.2.1, hs.2.2.1.row hg hr, (ownFrom_below (β := Unit) (Nat.le_refl _) (by omega)) () X Y row hs.2.2.2 hg hr⟩)
    ⟨by simp, k0, hB⟩ (fun _ _ => sd_all) (fun _ _ _ => sd_left)
    (AxB ?F 99 (fun x => readV (s.data.toList.drop x.val))) axB_from
    ?assign ?body (fun _ _ h => h) ?rest
  case assign =>
    intro l pre x W K hI hK
    have hK' := Lib.hid hK
    have hI' := Lib.hid hI
    clear hK hI
    have hV : readV (s.data.toList.drop x.val) = readV (s.data.toList.drop x.val) := rfl
    conv at hV => rhs; unfold readV
    have hV' := Lib.hid hV
    dsimp only [encRd]
    rw [hV'.out]
    clear hV
    gi_wp2
    obtain ⟨k, hk⟩ : ∃ k, W.heap.size = k := ⟨_, rfl⟩
    have hnew := Has.new W 99 (readV (s.data.toList.drop x.val))
    rw [hV'.out] at hnew
    have hsz := hI'.out.2.2.size
    rw [hk] at hnew ⊢
    refine hK'.out _ _ ((KeepsOthers.alloc _ _).from _) ((KeepC.refl _ _ _).alloc _) ⟨hI'.out.1, hI'.out.2.1.alloc _, hI'.out.2.2.alloc hsz _⟩ ⟨k, ?_, (show Has _ k _ (readV (s.data.toList.drop x.val)) from by rw [hV'.out]; exact hnew)⟩
    rfl
  case body =>
    rintro l pre x a' W hl ⟨r, hr⟩ ⟨hall, hM, hBW⟩ ⟨k, rfl, hk⟩ hlen
    have hk : Has W k 99 (readV (s.data.toList.drop x.val)) := hk
    unfold readV at hk
    have hall' := Lib.hid hall
    have hM' := Lib.hid hM
    have f0 := hM.free 0
    have c0 := hM.cell 0
    have hBW' := Lib.hid hBW
    clear hall hM hBW hr
    by_cases hst : (lookAt s.data.toList x.val).st = 0
    · have hst' : (look (s.data.toList.drop x.val)).st = 0 := hst
      rw [hst'] at hk
      have c3 := hk.cell 3
      have hst2 := Lib.hid hst
      clear hst hst' hk
      gi_wp2
      refine ⟨(KeepsOthers.refl _).from _, KeepC.refl _ _ _, ?_, hM'.out, hBW'.out⟩
      intro y hy
      rcases List.mem_append.1 hy with hy | hy
      · exact hall'.out y hy
      · rw [List.mem_singleton.1 hy]; exact hst2.out
    · have hst' : ¬ (look (s.data.toList.drop x.val)).st = 0 := hst
      generalize (look (s.data.toList.drop x.val)).st = sv at hk hst'
      have hsv : ((sv : Int) != 0) = true := by rw [bne_iff_ne]; omega
      have c3 := hk.cell 3
      have hst2 := Lib.hid hst
      clear hst hst' hk
      gi_wp2
      refine ⟨(KeepsOthers.setCell _ _ _).from _, rfl, ⟨x, by simp, hst2.out⟩, by simpa using hM'.out.put 0 (.bool false), hBW'.out.setCell (Nat.le_refl _) _⟩
  case rest =>
    rintro D W hD ⟨hM, hBW⟩ hDn
    have c0 := hM.cell 0
    have hDn' := Lib.hid hDn
    have hBW' := Lib.hid hBW
    clear hM hBW hDn
    go_wp2
    refine ⟨by simp, .inl ⟨_, _, rfl, run_takeDeferred hDn'.out, ?_⟩⟩
    refine ⟨_, results_tmp rfl _ _ _, rfl, hBW'.out.trans (belowK_b (w := w) (Nat.le_refl _) W D _ _ (by omega) hDn'.out rfl rfl)⟩
end Go.Proofs.YthdmmlaahjgijaaDoor
