import Derived.Test.YtabgpnieekcdhaaDoorAnK
namespace Go.Proofs.YtabgpnieekcdhaaDoor
open Go.RowKit
attribute [local go_sem] Oper.semAt_some

/-! ## The document's Refusal, Health, Stream -/
theorem dec200 : An.dec 200 = [50, 48, 48] := by
  rw [An.dec_of (K := 3) ⟨by omega, by decide, .inr (by decide)⟩]
  decide
theorem streamF_lit : An.streamF = [72, 84, 84, 80, 47, 49, 46, 49, 32, 50, 48, 48, 32, 79, 75] := by
  unfold An.streamF An.firstT
  rw [dec200]
  rfl
set_option maxRecDepth 100000 in
set_option maxHeartbeats 8000000 in
theorem refRefusal_any (s : Int) (w : World) : Calls Tryd.prog 13 #[.int .i64 s] w fun e w' => e = .returned (reasonV (An.refusalO s)) ∧ Below w.heap.size w w' := by
  have hre := Lib.hid (refReason_any s w)
  unfold An.refusalO
  cases hrs : An.reason s with
  | none =>
    rw [hrs] at hre
    unfold reasonV at hre ⊢
    simp only at hre ⊢
    clear hrs
    go_enter Tryd.func13, Tryd.ntmps13
    go_wp2_with (go_at_call 11; (with_reducible refine Calls.mono hre.out ?_); rintro e w2 ⟨rfl, hb2⟩; have hb2' := Lib.hid hb2; clear hb2)
    go_ret2
    exact ⟨rfl, hb2'.out⟩
  | some r =>
    rw [hrs] at hre
    simp only
    by_cases h2 : s = 200
    · rw [if_pos h2]
      subst h2
      unfold reasonV at hre ⊢
      simp only at hre ⊢
      clear hrs
      go_enter Tryd.func13, Tryd.ntmps13
      go_wp2_with (go_at_call 11; (with_reducible refine Calls.mono hre.out ?_); rintro e w2 ⟨rfl, hb2⟩; have hb2' := Lib.hid hb2; clear hb2)
      go_ret2
      exact ⟨rfl, hb2'.out⟩
    · rw [if_neg h2]
      obtain ⟨j, hj, hs, hr2⟩ := An.reason_some hrs
      have hsv := An.stat_val hj
      subst hs hr2
      rw [Int.toNat_natCast]
      have hdl := An.dec_len (x := (An.stat j).1) (by omega)
      have hll : (lowerL (An.stat j).2).length ≤ 31 := by have : (lowerL (An.stat j).2).length = (An.stat j).2.length := by simp [lowerL]
                                                          omega
      have hte : An.refusalT (An.stat j).1 (An.stat j).2 = An.dec (An.stat j).1 ++ [32] ++ lowerL (An.stat j).2 := rfl
      have htl : (An.refusalT (An.stat j).1 (An.stat j).2).length ≤ 1000 := by rw [hte]; simp; omega
      have hp := fun W => refPlain_any ((An.stat j).1 : Int) (An.refusalT (An.stat j).1 (An.stat j).2) W (by omega)
      rw [show An.plainO ((An.stat j).1 : Int) (An.refusalT (An.stat j).1 (An.stat j).2) = some (An.plainB (An.stat j).1 (An.stat j).2 (An.refusalT (An.stat j).1 (An.stat j).2)) by unfold An.plainO; rw [hrs]; simp only; rw [if_pos htl, Int.toNat_natCast]] at hp
      have hp' := Lib.hid hp
      have htx := Lib.hid (fun W => refText_dec (An.stat j).1 (by omega) W)
      have hlw := Lib.hid (fun W => refLower_any (An.stat j).2 W (by omega))
      have hw1 : IntKind.u64.wrap ((An.stat j).1 : Int) = ((An.stat j).1 : Int) := by rw [IntKind.wrap_u64]; omega
      have hfc : ((⟨(An.dec (An.stat j).1).toArray⟩ : ByteArray) ++ ⟨#[32]⟩ ++ ⟨(lowerL (An.stat j).2).toArray⟩) = ⟨(An.refusalT (An.stat j).1 (An.stat j).2).toArray⟩ := by
        rw [hte, show (⟨#[32]⟩ : ByteArray) = ⟨[32].toArray⟩ from rfl, app_str, app_str]
      have h2i : ¬ ((An.stat j).1 : Int) = 200 := h2
      unfold StrR at hlw
      unfold reasonV at hre hp' ⊢
      simp only at hre hp' ⊢
      clear hrs hsv hte htl h2 hp
      generalize An.plainB (An.stat j).1 (An.stat j).2 (An.refusalT (An.stat j).1 (An.stat j).2) = P at *
      generalize An.refusalT (An.stat j).1 (An.stat j).2 = t at *
      generalize An.dec (An.stat j).1 = dg at *
      generalize lowerL (An.stat j).2 = lw at *
      generalize (An.stat j).1 = sn at *
      generalize (An.stat j).2 = sr at *
      go_enter Tryd.func13, Tryd.ntmps13
      go_wp2_with (first
        | (go_at_call 11; (with_reducible refine Calls.mono hre.out ?_); rintro e w2 ⟨rfl, hb2⟩; have hb2' := Lib.hid hb2; clear hb2)
        | (go_at_call 24; (with_reducible refine Calls.mono (htx.out _) ?_); rintro e w3 ⟨rfl, hw3'⟩; obtain rfl := hw3'.symm)
        | (go_at_call 33; (with_reducible refine Calls.mono (hlw.out _) ?_); rintro e w4 ⟨rfl, hb4⟩; have hb4' := Lib.hid (below_on hb2'.out hb4); clear hb4)
        | (go_at_call 12; (with_reducible refine Calls.mono (hp'.out _) ?_); rintro e w5 ⟨rfl, hb5⟩; have hb5' := Lib.hid (below_on hb4'.out hb5); clear hb5))
      go_ret2
      exact ⟨rfl, hb5'.out⟩
set_option maxRecDepth 100000 in
set_option maxHeartbeats 8000000 in
theorem refHealth_any (a b : Int) (d : Bool) (w : World) (ha : a ≤ 9223372036854775807) (hb : b ≤ 9223372036854775807) : Calls Tryd.prog 16 #[.int .i64 a, .int .i64 b, .bool d] w fun e w' => e = .returned (reasonV (An.healthO a b d)) ∧ Below w.heap.size w w' := by
  unfold An.healthO
  by_cases h : a < 0 ∨ b < 0
  · rw [if_pos h]
    unfold reasonV
    simp only
    by_cases ha0 : a < 0
    · go_enter Tryd.func16, Tryd.ntmps16
      go_wp2
      go_ret2
      exact ⟨rfl, Below.refl _ _⟩
    · have hb0 : b < 0 := by omega
      clear h
      go_enter Tryd.func16, Tryd.ntmps16
      go_wp2
      go_ret2
      exact ⟨rfl, Below.refl _ _⟩
  · rw [if_neg h]
    have ha0 : ¬ a < 0 := by omega
    have hb0 : ¬ b < 0 := by omega
    cases d with
    | true =>
      rw [if_pos rfl]
      have hp := refPlain_any 503 An.drainL w (by decide)
      rw [show An.plainO 503 An.drainL = some (An.plainB 503 An.rs503 An.drainL) by
        unfold An.plainO
        rw [show An.reason 503 = some An.rs503 from An.reason_at (j := 6) (by omega)]
        simp only
        rw [if_pos (by decide)]
        rfl] at hp
      unfold reasonV at hp ⊢
      simp only at hp ⊢
      have hp' := Lib.hid (show Calls Tryd.prog 12 #[.int .i64 503, .string ⟨#[100, 114, 97, 105, 110, 105, 110, 103]⟩] w _ from hp)
      generalize An.plainB 503 An.rs503 An.drainL = P at *
      clear hp h
      go_enter Tryd.func16, Tryd.ntmps16
      go_wp2_with (go_at_call 12; (with_reducible refine Calls.mono hp'.out ?_); rintro e w8 ⟨rfl, hb8⟩; have hb8' := Lib.hid hb8; clear hb8)
      go_ret2
      exact ⟨rfl, hb8'.out⟩
    | false =>
      rw [if_neg (by simp)]
      obtain ⟨x, rfl⟩ := Int.eq_ofNat_of_zero_le (show 0 ≤ a by omega)
      obtain ⟨y, rfl⟩ := Int.eq_ofNat_of_zero_le (show 0 ≤ b by omega)
      rw [Int.toNat_natCast, Int.toNat_natCast]
      have hxl := An.dec_len (x := x) (by omega)
      have hyl := An.dec_len (x := y) (by omega)
      have htl : (An.healthT x y).length ≤ 1000 := by unfold An.healthT An.okL; simp; omega
      have htx := Lib.hid (fun W => refText_dec x (by omega) W)
      have hty := Lib.hid (fun W => refText_dec y (by omega) W)
      have hw1 : IntKind.u64.wrap (x : Int) = (x : Int) := by rw [IntKind.wrap_u64]; omega
      have hw2 : IntKind.u64.wrap (y : Int) = (y : Int) := by rw [IntKind.wrap_u64]; omega
      have hp := fun W => refPlain_any 200 (An.healthT x y) W (by omega)
      rw [show An.plainO 200 (An.healthT x y) = some (An.plainB 200 An.rs200 (An.healthT x y)) by
        unfold An.plainO
        rw [show An.reason 200 = some An.rs200 from An.reason_at (j := 0) (by omega)]
        simp only
        rw [if_pos htl]
        rfl] at hp
      have hfc : ((⟨#[111, 107, 32]⟩ : ByteArray) ++ ⟨(An.dec x).toArray⟩ ++ ⟨#[32]⟩ ++ ⟨(An.dec y).toArray⟩) = ⟨(An.healthT x y).toArray⟩ := by
        rw [show (⟨#[111, 107, 32]⟩ : ByteArray) = ⟨(An.okL ++ [32]).toArray⟩ from rfl, show (⟨#[32]⟩ : ByteArray) = ⟨[32].toArray⟩ from rfl, app_str, app_str, app_str]
        rfl
      unfold reasonV at hp ⊢
      simp only at hp ⊢
      have hp' := Lib.hid hp
      generalize An.plainB 200 An.rs200 (An.healthT x y) = P at *
      generalize An.healthT x y = t at *
      generalize An.dec x = dx at *
      generalize An.dec y = dy at *
      clear hp h htl
      go_enter Tryd.func16, Tryd.ntmps16
      go_wp2_with (first
        | (go_at_call 24; (with_reducible refine Calls.mono (htx.out _) ?_); rintro e w3 ⟨rfl, hw3'⟩; obtain rfl := hw3'.symm)
        | (go_at_call 24; (with_reducible refine Calls.mono (hty.out _) ?_); rintro e w4 ⟨rfl, hw4'⟩; obtain rfl := hw4'.symm)
        | (go_at_call 12; (with_reducible refine Calls.mono (hp'.out _) ?_); rintro e w8 ⟨rfl, hb8⟩; have hb8' := Lib.hid hb8; clear hb8))
      go_ret2
      exact ⟨rfl, hb8'.out⟩
set_option maxRecDepth 100000 in
set_option maxHeartbeats 8000000 in
theorem refStream_no (w : World) : Calls Tryd.prog 18 #[.bool false] w (StrR (An.streamB false) w) := by
  unfold StrR
  have hby := Lib.hid (fun A c W (hx : Prs W A (An.streamFl false)) => show Calls Tryd.prog 32 #[.agg #[.string ⟨#[72, 84, 84, 80, 47, 49, 46, 49, 32, 50, 48, 48, 32, 79, 75]⟩, .slice A 3 c]] W (StrR (An.streamB false) W) from by
    have h := refBytes_any An.streamF A c (An.streamFl false) W (by rw [streamF_lit]; decide) (by decide) (fun q h => by have := An.stream_small false q h; omega) hx
    rw [streamF_lit] at h
    rw [show An.streamB false = An.headT An.streamF (An.streamFl false) from rfl, streamF_lit]
    exact h)
  unfold StrR at hby
  generalize An.streamB false = P at *
  have hz1 : (w.alloc (.cells #[.string ⟨#[99, 111, 110, 116, 101, 110, 116, 45, 116, 121, 112, 101]⟩, .string ⟨#[116, 101, 120, 116, 47, 101, 118, 101, 110, 116, 45, 115, 116, 114, 101, 97, 109]⟩, .string ⟨#[99, 97, 99, 104, 101, 45, 99, 111, 110, 116, 114, 111, 108]⟩, .string ⟨#[110, 111, 45, 115, 116, 111, 114, 101]⟩, .string ⟨#[99, 111, 110, 110, 101, 99, 116, 105, 111, 110]⟩, .string ⟨#[99, 108, 111, 115, 101]⟩] 69)).heap.size = w.heap.size + 1 := by simp
  have hd0 := (hdsO_three w w.heap.size (An.ctypeL, An.streamT) (An.cacheL, An.noStoreL) (An.connL, An.closeL) (Nat.le_refl _)).below ((Below.refl _ _).alloc (Nat.le_refl _) (.cells #[.string ⟨#[72, 84, 84, 80, 47, 49, 46, 49, 32, 50, 48, 48, 32, 79, 75]⟩, .slice (some ⟨w.heap.size, 0, none⟩) 3 3] 53))
  have hh0 : Has ((w.alloc (.cells #[.string ⟨#[99, 111, 110, 116, 101, 110, 116, 45, 116, 121, 112, 101]⟩, .string ⟨#[116, 101, 120, 116, 47, 101, 118, 101, 110, 116, 45, 115, 116, 114, 101, 97, 109]⟩, .string ⟨#[99, 97, 99, 104, 101, 45, 99, 111, 110, 116, 114, 111, 108]⟩, .string ⟨#[110, 111, 45, 115, 116, 111, 114, 101]⟩, .string ⟨#[99, 111, 110, 110, 101, 99, 116, 105, 111, 110]⟩, .string ⟨#[99, 108, 111, 115, 101]⟩] 69)).alloc (.cells #[.string ⟨#[72, 84, 84, 80, 47, 49, 46, 49, 32, 50, 48, 48, 32, 79, 75]⟩, .slice (some ⟨w.heap.size, 0, none⟩) 3 3] 53)) (w.heap.size + 1) 53 #[.string ⟨#[72, 84, 84, 80, 47, 49, 46, 49, 32, 50, 48, 48, 32, 79, 75]⟩, .slice (some ⟨w.heap.size, 0, none⟩) 3 3] := by rw [← hz1]; exact Has.new _ _ _
  have hB0 : Below w.heap.size w ((w.alloc (.cells #[.string ⟨#[99, 111, 110, 116, 101, 110, 116, 45, 116, 121, 112, 101]⟩, .string ⟨#[116, 101, 120, 116, 47, 101, 118, 101, 110, 116, 45, 115, 116, 114, 101, 97, 109]⟩, .string ⟨#[99, 97, 99, 104, 101, 45, 99, 111, 110, 116, 114, 111, 108]⟩, .string ⟨#[110, 111, 45, 115, 116, 111, 114, 101]⟩, .string ⟨#[99, 111, 110, 110, 101, 99, 116, 105, 111, 110]⟩, .string ⟨#[99, 108, 111, 115, 101]⟩] 69)).alloc (.cells #[.string ⟨#[72, 84, 84, 80, 47, 49, 46, 49, 32, 50, 48, 48, 32, 79, 75]⟩, .slice (some ⟨w.heap.size, 0, none⟩) 3 3] 53)) := ((Below.refl _ _).alloc (Nat.le_refl _) _).alloc (by rw [hz1]; omega) _
  obtain ⟨A9, c9, e9, hp9⟩ := hd0.prs
  injection e9 with e1 _ _
  subst e1
  have hp9' := Lib.hid (show Prs ((w.alloc (.cells #[.string ⟨#[99, 111, 110, 116, 101, 110, 116, 45, 116, 121, 112, 101]⟩, .string ⟨#[116, 101, 120, 116, 47, 101, 118, 101, 110, 116, 45, 115, 116, 114, 101, 97, 109]⟩, .string ⟨#[99, 97, 99, 104, 101, 45, 99, 111, 110, 116, 114, 111, 108]⟩, .string ⟨#[110, 111, 45, 115, 116, 111, 114, 101]⟩, .string ⟨#[99, 111, 110, 110, 101, 99, 116, 105, 111, 110]⟩, .string ⟨#[99, 108, 111, 115, 101]⟩] 69)).alloc (.cells #[.string ⟨#[72, 84, 84, 80, 47, 49, 46, 49, 32, 50, 48, 48, 32, 79, 75]⟩, .slice (some ⟨w.heap.size, 0, none⟩) 3 3] 53)) (some ⟨w.heap.size, 0, none⟩) (An.streamFl false) from hp9)
  have hB0' := Lib.hid hB0
  clear hd0 hp9 hB0
  obtain ⟨wh, hwh⟩ : ∃ wh, (w.alloc (.cells #[.string ⟨#[99, 111, 110, 116, 101, 110, 116, 45, 116, 121, 112, 101]⟩, .string ⟨#[116, 101, 120, 116, 47, 101, 118, 101, 110, 116, 45, 115, 116, 114, 101, 97, 109]⟩, .string ⟨#[99, 97, 99, 104, 101, 45, 99, 111, 110, 116, 114, 111, 108]⟩, .string ⟨#[110, 111, 45, 115, 116, 111, 114, 101]⟩, .string ⟨#[99, 111, 110, 110, 101, 99, 116, 105, 111, 110]⟩, .string ⟨#[99, 108, 111, 115, 101]⟩] 69)).alloc (.cells #[.string ⟨#[72, 84, 84, 80, 47, 49, 46, 49, 32, 50, 48, 48, 32, 79, 75]⟩, .slice (some ⟨w.heap.size, 0, none⟩) 3 3] 53) = wh := ⟨_, rfl⟩
  rw [hwh] at hp9' hB0' hh0
  have k0 := hh0.cell 0
  have k1 := hh0.cell 1
  go_enter Tryd.func18, Tryd.ntmps18
  go_wp2_with (go_at_call 32; (with_reducible refine Calls.mono (hby.out _ _ _ hp9'.out) ?_); rintro e w9 ⟨rfl, hb9⟩; have hb9' := Lib.hid hb9; clear hb9)
  go_ret
  exact ⟨rfl, below_on hB0'.out hb9'.out⟩
set_option maxRecDepth 100000 in
set_option maxHeartbeats 8000000 in
theorem refStream_yes (w : World) : Calls Tryd.prog 18 #[.bool true] w (StrR (An.streamB true) w) := by
  unfold StrR
  have hby := Lib.hid (fun A c W (hx : Prs W A (An.streamFl true)) => show Calls Tryd.prog 32 #[.agg #[.string ⟨#[72, 84, 84, 80, 47, 49, 46, 49, 32, 50, 48, 48, 32, 79, 75]⟩, .slice A 3 c]] W (StrR (An.streamB true) W) from by
    have h := refBytes_any An.streamF A c (An.streamFl true) W (by rw [streamF_lit]; decide) (by decide) (fun q h => by have := An.stream_small true q h; omega) hx
    rw [streamF_lit] at h
    rw [show An.streamB true = An.headT An.streamF (An.streamFl true) from rfl, streamF_lit]
    exact h)
  unfold StrR at hby
  generalize An.streamB true = P at *
  obtain ⟨n, hn⟩ : ∃ n, w.heap.size = n := ⟨_, rfl⟩
  have hz1 : (w.alloc (.cells #[.string ⟨#[99, 111, 110, 116, 101, 110, 116, 45, 116, 121, 112, 101]⟩, .string ⟨#[116, 101, 120, 116, 47, 101, 118, 101, 110, 116, 45, 115, 116, 114, 101, 97, 109]⟩, .string ⟨#[99, 97, 99, 104, 101, 45, 99, 111, 110, 116, 114, 111, 108]⟩, .string ⟨#[110, 111, 45, 115, 116, 111, 114, 101]⟩, .string ⟨#[99, 111, 110, 110, 101, 99, 116, 105, 111, 110]⟩, .string ⟨#[99, 108, 111, 115, 101]⟩] 69)).heap.size = n + 1 := by simp [hn]
  have hr0 : Has ((w.alloc (.cells #[.string ⟨#[99, 111, 110, 116, 101, 110, 116, 45, 116, 121, 112, 101]⟩, .string ⟨#[116, 101, 120, 116, 47, 101, 118, 101, 110, 116, 45, 115, 116, 114, 101, 97, 109]⟩, .string ⟨#[99, 97, 99, 104, 101, 45, 99, 111, 110, 116, 114, 111, 108]⟩, .string ⟨#[110, 111, 45, 115, 116, 111, 114, 101]⟩, .string ⟨#[99, 111, 110, 110, 101, 99, 116, 105, 111, 110]⟩, .string ⟨#[99, 108, 111, 115, 101]⟩] 69)).alloc (.cells #[.string ⟨#[72, 84, 84, 80, 47, 49, 46, 49, 32, 50, 48, 48, 32, 79, 75]⟩, .slice (some ⟨n, 0, none⟩) 3 3] 53)) n 69 #[.string ⟨#[99, 111, 110, 116, 101, 110, 116, 45, 116, 121, 112, 101]⟩, .string ⟨#[116, 101, 120, 116, 47, 101, 118, 101, 110, 116, 45, 115, 116, 114, 101, 97, 109]⟩, .string ⟨#[99, 97, 99, 104, 101, 45, 99, 111, 110, 116, 114, 111, 108]⟩, .string ⟨#[110, 111, 45, 115, 116, 111, 114, 101]⟩, .string ⟨#[99, 111, 110, 110, 101, 99, 116, 105, 111, 110]⟩, .string ⟨#[99, 108, 111, 115, 101]⟩] := by
    have h := Has.new w 69 #[.string ⟨#[99, 111, 110, 116, 101, 110, 116, 45, 116, 121, 112, 101]⟩, .string ⟨#[116, 101, 120, 116, 47, 101, 118, 101, 110, 116, 45, 115, 116, 114, 101, 97, 109]⟩, .string ⟨#[99, 97, 99, 104, 101, 45, 99, 111, 110, 116, 114, 111, 108]⟩, .string ⟨#[110, 111, 45, 115, 116, 111, 114, 101]⟩, .string ⟨#[99, 111, 110, 110, 101, 99, 116, 105, 111, 110]⟩, .string ⟨#[99, 108, 111, 115, 101]⟩]
    rw [hn] at h
    exact h.alloc _
  have hh0 : Has ((w.alloc (.cells #[.string ⟨#[99, 111, 110, 116, 101, 110, 116, 45, 116, 121, 112, 101]⟩, .string ⟨#[116, 101, 120, 116, 47, 101, 118, 101, 110, 116, 45, 115, 116, 114, 101, 97, 109]⟩, .string ⟨#[99, 97, 99, 104, 101, 45, 99, 111, 110, 116, 114, 111, 108]⟩, .string ⟨#[110, 111, 45, 115, 116, 111, 114, 101]⟩, .string ⟨#[99, 111, 110, 110, 101, 99, 116, 105, 111, 110]⟩, .string ⟨#[99, 108, 111, 115, 101]⟩] 69)).alloc (.cells #[.string ⟨#[72, 84, 84, 80, 47, 49, 46, 49, 32, 50, 48, 48, 32, 79, 75]⟩, .slice (some ⟨n, 0, none⟩) 3 3] 53)) (n + 1) 53 #[.string ⟨#[72, 84, 84, 80, 47, 49, 46, 49, 32, 50, 48, 48, 32, 79, 75]⟩, .slice (some ⟨n, 0, none⟩) 3 3] := by rw [← hz1]; exact Has.new _ _ _
  have hB0 : Below n w ((w.alloc (.cells #[.string ⟨#[99, 111, 110, 116, 101, 110, 116, 45, 116, 121, 112, 101]⟩, .string ⟨#[116, 101, 120, 116, 47, 101, 118, 101, 110, 116, 45, 115, 116, 114, 101, 97, 109]⟩, .string ⟨#[99, 97, 99, 104, 101, 45, 99, 111, 110, 116, 114, 111, 108]⟩, .string ⟨#[110, 111, 45, 115, 116, 111, 114, 101]⟩, .string ⟨#[99, 111, 110, 110, 101, 99, 116, 105, 111, 110]⟩, .string ⟨#[99, 108, 111, 115, 101]⟩] 69)).alloc (.cells #[.string ⟨#[72, 84, 84, 80, 47, 49, 46, 49, 32, 50, 48, 48, 32, 79, 75]⟩, .slice (some ⟨n, 0, none⟩) 3 3] 53)) := ((Below.refl n w).alloc (by omega) _).alloc (by rw [hz1]; omega) _
  obtain ⟨wh, hwh⟩ : ∃ wh, (w.alloc (.cells #[.string ⟨#[99, 111, 110, 116, 101, 110, 116, 45, 116, 121, 112, 101]⟩, .string ⟨#[116, 101, 120, 116, 47, 101, 118, 101, 110, 116, 45, 115, 116, 114, 101, 97, 109]⟩, .string ⟨#[99, 97, 99, 104, 101, 45, 99, 111, 110, 116, 114, 111, 108]⟩, .string ⟨#[110, 111, 45, 115, 116, 111, 114, 101]⟩, .string ⟨#[99, 111, 110, 110, 101, 99, 116, 105, 111, 110]⟩, .string ⟨#[99, 108, 111, 115, 101]⟩] 69)).alloc (.cells #[.string ⟨#[72, 84, 84, 80, 47, 49, 46, 49, 32, 50, 48, 48, 32, 79, 75]⟩, .slice (some ⟨n, 0, none⟩) 3 3] 53) = wh := ⟨_, rfl⟩
  rw [hwh] at hr0 hB0 hh0
  have k1 := hh0.cell 1
  have r4 := hr0.cell 4
  have r5 := hr0.cell 5
  have f4 := hr0.free 4
  have f5 := hr0.free 5
  have hr2 : Has ((wh.setCell ⟨n, 4, none⟩ (.string ⟨#[116, 114, 97, 110, 115, 102, 101, 114, 45, 101, 110, 99, 111, 100, 105, 110, 103]⟩)).setCell ⟨n, 5, none⟩ (.string ⟨#[99, 104, 117, 110, 107, 101, 100]⟩)) n 69 #[.string ⟨#[99, 111, 110, 116, 101, 110, 116, 45, 116, 121, 112, 101]⟩, .string ⟨#[116, 101, 120, 116, 47, 101, 118, 101, 110, 116, 45, 115, 116, 114, 101, 97, 109]⟩, .string ⟨#[99, 97, 99, 104, 101, 45, 99, 111, 110, 116, 114, 111, 108]⟩, .string ⟨#[110, 111, 45, 115, 116, 111, 114, 101]⟩, .string ⟨#[116, 114, 97, 110, 115, 102, 101, 114, 45, 101, 110, 99, 111, 100, 105, 110, 103]⟩, .string ⟨#[99, 104, 117, 110, 107, 101, 100]⟩] := by simpa using (hr0.put 4 (.string ⟨#[116, 114, 97, 110, 115, 102, 101, 114, 45, 101, 110, 99, 111, 100, 105, 110, 103]⟩)).put 5 (.string ⟨#[99, 104, 117, 110, 107, 101, 100]⟩)
  have hh2 : Has ((wh.setCell ⟨n, 4, none⟩ (.string ⟨#[116, 114, 97, 110, 115, 102, 101, 114, 45, 101, 110, 99, 111, 100, 105, 110, 103]⟩)).setCell ⟨n, 5, none⟩ (.string ⟨#[99, 104, 117, 110, 107, 101, 100]⟩)) (n + 1) 53 #[.string ⟨#[72, 84, 84, 80, 47, 49, 46, 49, 32, 50, 48, 48, 32, 79, 75]⟩, .slice (some ⟨n, 0, none⟩) 3 3] := (hh0.other (by omega) _).other (by omega) _
  have hB2 : Below n w ((wh.setCell ⟨n, 4, none⟩ (.string ⟨#[116, 114, 97, 110, 115, 102, 101, 114, 45, 101, 110, 99, 111, 100, 105, 110, 103]⟩)).setCell ⟨n, 5, none⟩ (.string ⟨#[99, 104, 117, 110, 107, 101, 100]⟩)) := (hB0.setCell (p := ⟨n, 4, none⟩) (Nat.le_refl n) _).setCell (p := ⟨n, 5, none⟩) (Nat.le_refl n) _
  have hd2 : HdsO ((wh.setCell ⟨n, 4, none⟩ (.string ⟨#[116, 114, 97, 110, 115, 102, 101, 114, 45, 101, 110, 99, 111, 100, 105, 110, 103]⟩)).setCell ⟨n, 5, none⟩ (.string ⟨#[99, 104, 117, 110, 107, 101, 100]⟩)) n (.slice (some ⟨n, 0, none⟩) 3 3) (An.streamFl true) := ⟨rfl, .inr ⟨n, 3, _, rfl, Nat.le_refl _, hr2, Nat.le_refl _, by decide, rfl, rfl⟩⟩
  have hp9' := Lib.hid (show Prs ((wh.setCell ⟨n, 4, none⟩ (.string ⟨#[116, 114, 97, 110, 115, 102, 101, 114, 45, 101, 110, 99, 111, 100, 105, 110, 103]⟩)).setCell ⟨n, 5, none⟩ (.string ⟨#[99, 104, 117, 110, 107, 101, 100]⟩)) (some ⟨n, 0, none⟩) (An.streamFl true) from by
    obtain ⟨A9, c9, e9, hp9⟩ := hd2.prs
    injection e9 with e1 _ _
    subst e1
    exact hp9)
  have hB2' := Lib.hid hB2
  obtain ⟨wk, hwk⟩ : ∃ wk, (wh.setCell ⟨n, 4, none⟩ (.string ⟨#[116, 114, 97, 110, 115, 102, 101, 114, 45, 101, 110, 99, 111, 100, 105, 110, 103]⟩)).setCell ⟨n, 5, none⟩ (.string ⟨#[99, 104, 117, 110, 107, 101, 100]⟩) = wk := ⟨_, rfl⟩
  rw [hwk] at hp9' hB2' hh2
  have j0 := hh2.cell 0
  have j1 := hh2.cell 1
  clear hr0 hh0 hB0 hr2 hd2 hB2 hh2
  go_enter Tryd.func18, Tryd.ntmps18
  go_wp2_with (go_at_call 32; (with_reducible refine Calls.mono (hby.out _ _ _ hp9'.out) ?_); rintro e w9 ⟨rfl, hb9⟩; have hb9' := Lib.hid hb9; clear hb9)
  go_ret
  have hBn : Below w.heap.size w wk := by rw [hn]; exact hB2'.out
  exact ⟨rfl, below_on hBn hb9'.out⟩
theorem refStream_any (c : Bool) (w : World) : Calls Tryd.prog 18 #[.bool c] w (StrR (An.streamB c) w) := by
  cases c
  · exact refStream_no w
  · exact refStream_yes w
end Go.Proofs.YtabgpnieekcdhaaDoor
