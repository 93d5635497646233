import Derived.Test.YtbmemkbfignlaaaGreatDoorPk3
import Derived.Test.YtbmemkbfignlaaaGreatDoorPk19
import Derived.Lib.SplitLaws
import Derived.Test.YtbmemkbfignlaaaGreatDoorPk8
import Derived.Test.YtbmemkbfignlaaaGreatDoorPk2
import Derived.Test.YtbmemkbfignlaaaGreatDoorPk24
import Derived.BigQuiet
import Derived.Test.YtbmemkbfignlaaaGreatDoorPk34
import Derived.Test.YtbmemkbfignlaaaGreatDoorPk40
import Derived.Test.YtbmemkbfignlaaaGreatDoorPk41
namespace Go.Proofs.YtbmemkbfignlaaaGreatDoor
open Go.RowKit
/-! ## What stands between bytes: mathematics -/
theorem exE (l : List UInt8) (a b : Nat) : (⟨l.toArray⟩ : ByteArray).extract a b = ⟨((l.drop a).take (b - a)).toArray⟩ := by
  have h : ((⟨l.toArray⟩ : ByteArray).extract a b).data = ((l.drop a).take (b - a)).toArray := by
    apply Array.toList_inj.1
    rw [ByteArray.data_extract, Array.toList_extract, List.extract_eq_take_drop]
  generalize (⟨l.toArray⟩ : ByteArray).extract a b = x at h ⊢
  cases x
  exact congrArg ByteArray.mk h
theorem partsG_comma : ∀ l, partsG 44 l = commasL l
  | [] => rfl
  | b :: r => by
    unfold partsG commasL
    rw [partsG_comma r]
    split
    · rfl
    · cases commasL r <;> rfl
theorem parts_index : ∀ s : List UInt8, (Lib.index s [44] = -1 → commasL s = [s]) ∧ (∀ i : Nat, Lib.index s [44] = i → commasL s = s.take i :: commasL (s.drop (i + 1)))
  | [] => ⟨fun _ => rfl, fun i h => by simp [Lib.index] at h⟩
  | b :: r => by
    obtain ⟨ih1, ih2⟩ := parts_index r
    have hge := Lib.index_ge r [44]
    by_cases hb : b = 44
    · subst hb
      have h0 : Lib.index (44 :: r) [44] = 0 := by simp [Lib.index, List.isPrefixOf]
      refine ⟨fun h => by omega, fun i h => ?_⟩
      obtain rfl : i = 0 := by omega
      simp [commasL]
    · have hp : ([44] : List UInt8).isPrefixOf (b :: r) = false := by simp [List.isPrefixOf]; exact fun e => hb e.symm
      have hi : Lib.index (b :: r) [44] = if Lib.index r [44] == -1 then -1 else Lib.index r [44] + 1 := by
        conv => lhs; unfold Lib.index
        rw [hp]; rfl
      rw [hi]
      by_cases hm : Lib.index r [44] = -1
      · rw [if_pos (beq_iff_eq.2 hm)]
        refine ⟨fun _ => ?_, fun i h => by omega⟩
        unfold commasL
        rw [if_neg hb, ih1 hm]
      · rw [if_neg (fun e => hm (beq_iff_eq.1 e))]
        refine ⟨fun h => by omega, fun i h => ?_⟩
        obtain ⟨j, rfl⟩ : ∃ j, i = j + 1 := ⟨i - 1, by omega⟩
        conv => lhs; unfold commasL
        rw [if_neg hb, ih2 j (by omega)]
        simp
theorem parts_split (n : Nat) : ∀ s : List UInt8, s.length ≤ n → Lib.splitK [44] 0 (Lib.count s [44]) s = commasL s ∧ Lib.count s [44] + 1 = (commasL s).length := by
  induction n with
  | zero =>
    intro s hs
    obtain rfl : s = [] := List.length_eq_zero_iff.1 (by omega)
    exact ⟨rfl, rfl⟩
  | succ n ih =>
    intro s hs
    obtain ⟨h1, h2⟩ := parts_index s
    by_cases hm : Lib.index s [44] = -1
    · rw [Lib.count_miss hm, h1 hm]
      exact ⟨rfl, rfl⟩
    · have hge := Lib.index_ge s [44]
      obtain ⟨i, hi⟩ : ∃ i : Nat, Lib.index s [44] = i := ⟨(Lib.index s [44]).toNat, by omega⟩
      have hr := Lib.index_room s [44] (by omega)
      obtain ⟨a, b⟩ := ih (s.drop (i + 1)) (by rw [List.length_drop]; simp at hr; omega)
      rw [Lib.count_hit (by simp) hi, h2 i hi]
      constructor
      · rw [show 1 + Lib.count (s.drop (i + ([44] : List UInt8).length)) [44] = Lib.count (s.drop (i + 1)) [44] + 1 from by simp; omega]
        unfold Lib.splitK
        rw [if_neg (fun e => hm (beq_iff_eq.1 e)), hi]
        simp only [Int.toNat_natCast, Nat.add_zero]
        exact congrArg _ a
      · show 1 + Lib.count (s.drop (i + 1)) [44] + 1 = (commasL (s.drop (i + 1))).length + 1
        omega
theorem commasL_many (s : List UInt8) : (commasL s).length ≤ s.length + 1 := by rw [← partsG_comma]; exact partsG_many 44 s
/-- Of parts, what is an item. -/
def siftL (ls : List (List UInt8)) : List (List UInt8) := ls.filter (fun t => !t.isEmpty)
def itemsOf (ls : List (List UInt8)) : List (List UInt8) := siftL (ls.map trimL)
theorem itemsL_of (s : List UInt8) : itemsL s = itemsOf (partsG 44 s) := by rw [partsG_comma]; rfl
theorem siftL_len (ls : List (List UInt8)) : (siftL ls).length ≤ ls.length := List.length_filter_le _ _
theorem itemsOf_len (ls : List (List UInt8)) : (itemsOf ls).length ≤ ls.length := by unfold itemsOf; have := siftL_len (ls.map trimL); simpa using this
theorem siftL_snoc (ls : List (List UInt8)) (t : List UInt8) : (t = [] → siftL (ls ++ [t]) = siftL ls) ∧ (t ≠ [] → siftL (ls ++ [t]) = siftL ls ++ [t]) := by
  unfold siftL
  constructor
  · rintro rfl; simp
  · intro h
    have : t.isEmpty = false := by cases t with
      | nil => exact absurd rfl h
      | cons b r => rfl
    simp [List.filter_append, List.filter, this]
theorem itemsOf_snoc (ls : List (List UInt8)) (t : List UInt8) : (trimL t = [] → itemsOf (ls ++ [t]) = itemsOf ls) ∧ (trimL t ≠ [] → itemsOf (ls ++ [t]) = itemsOf ls ++ [trimL t]) := by
  unfold itemsOf
  rw [List.map_append, List.map_singleton]
  exact siftL_snoc _ _
theorem commasL_len : ∀ (s p : List UInt8), p ∈ commasL s → p.length ≤ s.length
  | [], p, hp => by simp [commasL] at hp; subst hp; simp
  | c :: r, p, hp => by
    unfold commasL at hp
    split at hp
    · rcases List.mem_cons.1 hp with rfl | h
      · simp
      · have := commasL_len r p h; simp; omega
    · split at hp
      · simp at hp; subst hp; simp
      · rename_i u us hu
        rcases List.mem_cons.1 hp with rfl | h
        · have := commasL_len r u (by rw [hu]; exact List.mem_cons_self); simp; omega
        · have := commasL_len r p (by rw [hu]; exact List.mem_cons_of_mem _ h); simp; omega
end Go.Proofs.YtbmemkbfignlaaaGreatDoor

namespace Go.Proofs.YtbmemkbfignlaaaGreatDoor
open Go.RowKit
attribute [local go_sem] Oper.semAt_some

/-! ## Lists of texts -/
set_option maxRecDepth 100000 in
set_option maxHeartbeats 2000000 in
theorem trimmedL_any (g c : Nat) (cs : Array Value) (ls : List (List UInt8)) (w : World) (hh : Has w g 9 cs) (hcs : ∀ (j : Nat) (y : List UInt8), ls[j]? = some y → cs[j]? = some (Value.string ⟨y.toArray⟩)) (hn : ls.length ≤ 100000) (hl : ∀ y ∈ ls, y.length ≤ 1000000) :
    Calls Tryz.prog 127 #[.slice (some ⟨g, 0, none⟩) ls.length c] w (StrsR (ls.map trimL) w) := by
  unfold StrsR
  have hcs' := Lib.hid hcs
  have hl' := Lib.hid hl
  have hh' := Lib.hid hh
  obtain ⟨n, hn'⟩ : ∃ n, ls.length = n := ⟨_, rfl⟩
  rw [hn'] at hn ⊢
  have hgl := hh.lt
  clear hcs hl hh
  go_enter Tryz.func127, Tryz.ntmps127
  go_wp2
  go_loopw [3, 8] (fun v x W => ∃ j : Nat, j ≤ n ∧ x = .int .i64 (j : Int) ∧ Strs W w.heap.size v ((ls.take j).map trimL) ∧ Below w.heap.size w W) (fun _ x _ => n - (intOf x).toNat)
  case atStart => exact ⟨0, Nat.zero_le _, rfl, strs_nil _ _, Below.refl _ _⟩
  case round =>
    obtain ⟨j, hj, rfl, hst, hb⟩ := hrel
    by_cases hlt : j < n
    · have hltI : (j : Int) < (n : Int) := by omega
      have hj2 : j < ls.length := by omega
      have ck := (hh'.out.below hb hgl).cell j
      rw [hcs'.out j _ (List.getElem?_eq_getElem hj2)] at ck
      have hyl := hl'.out _ (List.getElem_mem hj2)
      have htr := Lib.hid (trim_any ls[j] wr hyl)
      have htk := Lib.hid (take_next ls hj2)
      obtain ⟨A3, g3, c3, cur3, hv3, _⟩ := hst.shape
      obtain ⟨n3, hn3⟩ : ∃ n3, ((ls.take j).map trimL).length = n3 := ⟨_, rfl⟩
      rw [hn3] at hv3
      subst hv3
      have hn3' := Lib.hid (show ((ls.take j).map trimL).length + 1 ≤ 1000000 by simp; omega)
      have hst' := Lib.hid hst
      have hb' := Lib.hid hb
      generalize ls[j] = y at *
      clear hst hb hn3 hyl
      unfold StrR at htr
      go_wp2_with (first
        | (go_at_call 139; (with_reducible refine Calls.mono htr.out ?_); rintro e w2 ⟨rfl, hb2⟩; have hal := Lib.hid (((Below.refl w2.heap.size w2).alloc (Nat.le_refl _) (.cells #[.string ⟨(trimL y).toArray⟩] 9))); have hnew := Lib.hid (Has.new w2 9 #[.string ⟨(trimL y).toArray⟩]); have hst2 := Lib.hid ((hst'.out.below hb2).below hal.out); have hb3 := Lib.hid (hb'.out.trans (hb2.mono hb'.out.size)); have hz3 := hb3.out.size; clear hb2)
        | (at_builtin; refine wpList_append_str rfl _ _ rfl rfl hst2.out _ (trimL y) rfl hnew.out hn3'.out (by simp; omega) ?_; intro v4 w4 ho4 hg4; have ho4' := Lib.hid ho4; have hg4' := Lib.hid hg4; clear ho4 hg4))
      exact ⟨⟨j + 1, by omega, by go_num, by rw [htk.out, List.map_append]; exact ho4'.out, ((hb3.out.trans (hal.out.mono hz3)).grown hg4'.out (by simp; omega) (fun g e => (hst2.out.own g e).1))⟩, by simp [intOf]; omega⟩
    · obtain rfl : j = n := by omega
      have hst' := Lib.hid hst
      have hb' := Lib.hid hb
      clear hst hb
      go_wp2
      go_ret
      exact ⟨_, rfl, by have := hst'.out; rwa [List.take_of_length_le (by omega)] at this, hb'.out⟩
theorem full_any (s : List UInt8) (w : World) : Calls Tryz.prog 126 #[.string ⟨s.toArray⟩] w fun e w' => e = .returned (.bool (!s.isEmpty)) ∧ w' = w := by
  go_enter Tryz.func126, Tryz.ntmps126
  go_wp2
  go_ret
  refine ⟨?_, rfl⟩
  cases s <;> rfl
set_option maxRecDepth 100000 in
set_option maxHeartbeats 2000000 in
theorem sifted_any (g c : Nat) (cs : Array Value) (ls : List (List UInt8)) (w : World) (hh : Has w g 9 cs) (hcs : ∀ (j : Nat) (y : List UInt8), ls[j]? = some y → cs[j]? = some (Value.string ⟨y.toArray⟩)) (hn : ls.length ≤ 100000) :
    Calls Tryz.prog 125 #[.func (.func 126) #[] #[], .slice (some ⟨g, 0, none⟩) ls.length c] w (StrsR (siftL ls) w) := by
  unfold StrsR
  have hcs' := Lib.hid hcs
  have hh' := Lib.hid hh
  obtain ⟨n, hn'⟩ : ∃ n, ls.length = n := ⟨_, rfl⟩
  rw [hn'] at hn ⊢
  have hgl := hh.lt
  clear hcs hh
  go_enter Tryz.func125, Tryz.ntmps125
  go_wp2
  go_loopw [5, 10] (fun v x W => ∃ j : Nat, j ≤ n ∧ x = .int .i64 (j : Int) ∧ Strs W w.heap.size v (siftL (ls.take j)) ∧ Below w.heap.size w W) (fun _ x _ => n - (intOf x).toNat)
  case atStart => exact ⟨0, Nat.zero_le _, rfl, strs_nil _ _, Below.refl _ _⟩
  case round =>
    obtain ⟨j, hj, rfl, hst, hb⟩ := hrel
    by_cases hlt : j < n
    · have hltI : (j : Int) < (n : Int) := by omega
      have hj2 : j < ls.length := by omega
      have ck := (hh'.out.below hb hgl).cell j
      rw [hcs'.out j _ (List.getElem?_eq_getElem hj2)] at ck
      have hfu := full_any ls[j] wr
      have htk := take_next ls hj2
      obtain ⟨hs1, hs2⟩ := siftL_snoc (ls.take j) ls[j]
      rw [← htk] at hs1 hs2
      obtain ⟨A3, g3, c3, cur3, hv3, _⟩ := hst.shape
      have hln : (siftL (ls.take j)).length ≤ 100000 := by
        have := siftL_len (ls.take j)
        have h2 : (ls.take j).length ≤ ls.length := by simp; omega
        omega
      obtain ⟨n3, hn3⟩ : ∃ n3, (siftL (ls.take j)).length = n3 := ⟨_, rfl⟩
      rw [hn3] at hv3 hln
      subst hv3
      have hn3' := Lib.hid hn3
      have hst' := Lib.hid hst
      have hb' := Lib.hid hb
      have hz3 := hb.size
      generalize ls[j] = y at *
      clear hst hb hn3 htk
      by_cases hy : y = []
      · have hs := Lib.hid (hs1 hy)
        have e1 : (!y.isEmpty) = false := by rw [hy]; rfl
        rw [e1] at hfu
        have hfu' := Lib.hid hfu
        clear hs1 hs2 hy e1 hfu
        go_wp2_with (go_at_call 126; (with_reducible refine Calls.mono hfu'.out ?_); rintro e w2 ⟨rfl, hw2⟩; obtain rfl := hw2.symm)
        exact ⟨⟨j + 1, by omega, by go_num, by rw [hs.out]; exact hst'.out, hb'.out⟩, by simp [intOf]; omega⟩
      · have hs := Lib.hid (hs2 hy)
        have e1 : (!y.isEmpty) = true := by cases y with
          | nil => exact absurd rfl hy
          | cons b r => rfl
        rw [e1] at hfu
        have hfu' := Lib.hid hfu
        have hal := Lib.hid (((Below.refl wr.heap.size wr).alloc (Nat.le_refl _) (.cells #[.string ⟨y.toArray⟩] 9)))
        have hnew := Lib.hid (Has.new wr 9 #[.string ⟨y.toArray⟩])
        have hst2 := Lib.hid (hst'.out.below hal.out)
        clear hs1 hs2 hy e1 hfu
        go_wp2_with (first
          | (go_at_call 126; (with_reducible refine Calls.mono hfu'.out ?_); rintro e w2 ⟨rfl, hw2⟩; obtain rfl := hw2.symm)
          | (at_builtin; refine wpList_append_str rfl _ _ rfl rfl hst2.out _ y rfl hnew.out (by rw [hn3'.out]; omega) (by simp; omega) ?_; intro v4 w4 ho4 hg4; have ho4' := Lib.hid ho4; have hg4' := Lib.hid hg4; clear ho4 hg4))
        exact ⟨⟨j + 1, by omega, by go_num, by rw [hs.out]; exact ho4'.out, ((hb'.out.trans (hal.out.mono hz3)).grown hg4'.out (by simp; omega) (fun g e => (hst2.out.own g e).1))⟩, by simp [intOf]; omega⟩
    · obtain rfl : j = n := by omega
      have hst' := Lib.hid hst
      have hb' := Lib.hid hb
      clear hst hb
      go_wp2
      go_ret
      exact ⟨_, rfl, by have := hst'.out; rwa [List.take_of_length_le (by omega)] at this, hb'.out⟩
set_option maxRecDepth 100000 in
theorem items_any (s : List UInt8) (w : World) (hs : s.length ≤ 10000) (hM : MaxT w) : Calls Tryz.prog 91 #[.string ⟨s.toArray⟩] w (StrsR (itemsL s) w) := by
  unfold StrsR
  obtain ⟨m, hm⟩ := hM
  have hsp := Tryz.strings_Split ⟨s.toArray⟩ ⟨#[44]⟩ m w (by show s.toArray.size < _; simp; omega) (hm.cell 0) (by decide)
  obtain ⟨h1, h2⟩ := parts_split s.length s (Nat.le_refl _)
  have hd := Lib.splitB_data ⟨#[44]⟩ 0 (Lib.countB ⟨s.toArray⟩ ⟨#[44]⟩) ⟨s.toArray⟩
  have hc : Lib.countB ⟨s.toArray⟩ ⟨#[44]⟩ = Lib.count s [44] := rfl
  rw [hc] at hd hsp
  have hd : (Lib.splitB ⟨#[44]⟩ 0 (Lib.count s [44]) ⟨s.toArray⟩).map (·.data.toList) = commasL s := hd.trans h1
  rw [h2] at hsp
  generalize Lib.splitB ⟨#[44]⟩ 0 (Lib.count s [44]) ⟨s.toArray⟩ = bs at hd hsp
  have hsp' := Lib.hid hsp
  have hmany := commasL_many s
  have hlen : ∀ y ∈ commasL s, y.length ≤ 1000000 := fun y hy => by
    have := commasL_len s y hy
    omega
  have hne := commasL_ne s
  have hcs : ∀ (j : Nat) (y : List UInt8), (commasL s)[j]? = some y → (bs.map Value.string).toArray[j]? = some (Value.string ⟨y.toArray⟩) := fun j y h => by
    rw [← hd, List.getElem?_map] at h
    cases hb : bs[j]? with
    | none => rw [hb] at h; cases h
    | some b =>
      rw [hb] at h
      obtain rfl : b.data.toList = y := by simpa using h
      rw [List.getElem?_toArray, List.getElem?_map, hb]
      rfl
  have hk := Has.new w 9 (bs.map Value.string).toArray
  have hb1 : Below w.heap.size w (w.alloc (.cells (bs.map Value.string).toArray 9)) := (Below.refl _ _).alloc (Nat.le_refl _) _
  have htr := Lib.hid (trimmedL_any w.heap.size (commasL s).length _ (commasL s) _ hk hcs (by omega) hlen)
  have hit : siftL ((commasL s).map trimL) = itemsL s := rfl
  have hlen2 : ((commasL s).map trimL).length = (commasL s).length := by simp
  have h0 : 0 < ((commasL s).map trimL).length := by
    rw [hlen2]
    exact List.length_pos_iff.2 hne
  unfold StrsR at htr
  generalize commasL s = ls at *
  generalize htl : ls.map trimL = ts at *
  have hsi : ∀ (W : World) (A : Option Addr) (c : Nat), SL W A ts → Calls Tryz.prog 125 #[.func (.func 126) #[] #[], .slice A ts.length c] W (StrsR (siftL ts) W) := fun W A c h => by
    obtain ⟨g, cs, rfl, hh, hc⟩ := h.some h0
    exact sifted_any g c cs ts W hh hc (by omega)
  rw [hit] at hsi
  unfold StrsR at hsi
  simp only [hlen2] at hsi
  have hsi' := Lib.hid hsi
  have hb1' := Lib.hid hb1
  clear hd hsp hm hc h1 h2 hlen hcs hk hb1 hsi htl hit hne h0
  go_enter Tryz.func91, Tryz.ntmps91
  go_wp2_with (first
    | (go_at_call 97; (with_reducible refine Calls.mono hsp'.out ?_); rintro e w1 ⟨rfl, rfl⟩)
    | (go_at_call 127; (with_reducible refine Calls.mono htr.out ?_); rintro e w2 ⟨v2, rfl, hv2, hb2⟩; obtain ⟨A2, c2, rfl, hs2⟩ := hv2.sl; have hb2' := Lib.hid (hb1'.out.trans (hb2.mono hb1'.out.size)); have hs2' := Lib.hid hs2; clear hv2 hb2 hs2)
    | (go_at_call 125; (with_reducible refine Calls.mono (hsi'.out _ A2 c2 hs2'.out) ?_); rintro e w3 ⟨v3, rfl, hv3, hb3⟩))
  go_ret
  exact ⟨_, rfl, hv3.mono hb2'.out.size, hb2'.out.trans (hb3.mono hb2'.out.size)⟩
/-! ## Lists compared -/
end Go.Proofs.YtbmemkbfignlaaaGreatDoor

namespace Go.Proofs.YtbmemkbfignlaaaGreatDoor
open Go.RowKit Go.Shelf
attribute [local go_sem] Oper.semAt_some
attribute [local go_sem] wideF_fn wideF_depth wideF_round

/-! ## A look, and what the statuses ask of it -/
structure LkE (W : World) (b : Nat) (L : Rr.Lk) : Prop where
  box : ∃ A c B1 c1 B2 c2, Has W b 104 #[.string ⟨L.f.toArray⟩, .slice A L.l.length c, .string ⟨L.method.toArray⟩, .string ⟨L.version.toArray⟩, .slice B1 L.t.1.length c1, .slice B2 L.t.2.length c2, .bool L.aims] ∧
    Prs W A L.l ∧ Txs W B1 L.t.1 ∧ Prs W B2 L.t.2
theorem LkE.lt {W : World} {b : Nat} {L : Rr.Lk} (h : LkE W b L) : b < W.heap.size := by
  obtain ⟨A, c, B1, c1, B2, c2, h, -⟩ := h.box
  exact h.lt
theorem LkE.below {W W' : World} {b : Nat} {L : Rr.Lk} (h : LkE W b L) (hb : Below W.heap.size W W') : LkE W' b L := by
  obtain ⟨A, c, B1, c1, B2, c2, h1, h2, h3, h4⟩ := h.box
  exact ⟨A, c, B1, c1, B2, c2, h1.below hb h1.lt, h2.below hb, h3.below hb, h4.below hb⟩
structure FewLk (L : Rr.Lk) : Prop where
  f : L.f.length ≤ 1000
  l : L.l.length ≤ 5
  q : ∀ q ∈ L.l, q.1.length ≤ 1000 ∧ q.2.length ≤ 1000
  method : L.method.length ≤ 1000
  version : L.version.length ≤ 1000
  path : L.t.1.length ≤ 1000
  part : ∀ x ∈ L.t.1, x.length ≤ 600000
theorem FewLk.vals {L : Rr.Lk} (h : FewLk L) (name : List UInt8) : (Rr.vals name L.l).length ≤ 5 ∧ (Rr.joinL (Rr.vals name L.l)).length ≤ 5010 := by
  have h1 : (Rr.vals name L.l).length ≤ 5 := by
    unfold Rr.vals
    rw [List.length_map]
    exact Nat.le_trans (List.length_filter_le _ _) h.l
  refine ⟨h1, ?_⟩
  have := joinL_len (m := 1000) (Rr.vals name L.l) (fun x hx => by
    unfold Rr.vals at hx
    obtain ⟨q, hq, rfl⟩ := List.mem_map.1 hx
    exact (h.q q (List.mem_filter.1 hq).1).2)
  omega
set_option maxRecDepth 100000 in
theorem values_any (b : Nat) (L : Rr.Lk) (name : List UInt8) (w : World) (h : LkE w b L) (hF : FewLk L) (hn : name.length ≤ 1000) :
    Calls Tryz.prog 66 #[.pointer (some ⟨b, 0, none⟩), .string ⟨name.toArray⟩] w fun e w' => e = .returned (.tuple #[.string ⟨(Rr.joinL (Rr.vals name L.l)).toArray⟩, .int .i64 ((Rr.vals name L.l).length : Int)]) ∧ Below w.heap.size w w' := by
  obtain ⟨A, c, B1, c1, B2, c2, h1, h2, h3, h4⟩ := h.box
  have hg := Lib.hid (getH_any L.f A c L.l name w (by have := hF.l; omega) (by omega) (fun q hq => by have := hF.q q hq; omega) h2)
  have k0 := h1.cell 0
  have k1 := h1.cell 1
  generalize Rr.joinL (Rr.vals name L.l) = j at *
  generalize (Rr.vals name L.l).length = m at *
  clear h h1 h2 h3 h4 hF
  go_enter Tryz.func66, Tryz.ntmps66
  go_wp2_with (go_at_call 87; (with_reducible refine Calls.mono hg.out ?_); rintro e w2 ⟨rfl, hb2⟩; have hb2' := Lib.hid hb2; clear hb2)
  go_ret2
  exact ⟨rfl, hb2'.out⟩
set_option maxRecDepth 100000 in
theorem many_any (b : Nat) (L : Rr.Lk) (name : List UInt8) (w : World) (h : LkE w b L) (hF : FewLk L) (hn : name.length ≤ 1000) :
    Calls Tryz.prog 144 #[.pointer (some ⟨b, 0, none⟩), .string ⟨name.toArray⟩] w fun e w' => e = .returned (.int .i64 ((Rr.vals name L.l).length : Int)) ∧ Below w.heap.size w w' := by
  have hg := Lib.hid (values_any b L name w h hF hn)
  generalize Rr.joinL (Rr.vals name L.l) = j at *
  generalize (Rr.vals name L.l).length = m at *
  clear h hF
  go_enter Tryz.func144, Tryz.ntmps144
  go_wp2_with (go_at_call 66; (with_reducible refine Calls.mono hg.out ?_); rintro e w2 ⟨rfl, hb2⟩; have hb2' := Lib.hid hb2; clear hb2)
  go_ret
  exact ⟨rfl, hb2'.out⟩
set_option maxRecDepth 100000 in
theorem isOld_any (b : Nat) (L : Rr.Lk) (w : World) (h : LkE w b L) :
    Calls Tryz.prog 67 #[.pointer (some ⟨b, 0, none⟩)] w fun e w' => e = .returned (.bool (L.version == Rr.olderL)) ∧ w' = w := by
  obtain ⟨A, c, B1, c1, B2, c2, h1, h2, h3, h4⟩ := h.box
  have k3 := h1.cell 3
  have e : (L.version == [72, 84, 84, 80, 47, 49, 46, 48]) = (L.version == Rr.olderL) := rfl
  generalize (L.version == Rr.olderL) = o at *
  clear h h1 h2 h3 h4
  go_enter Tryz.func67, Tryz.ntmps67
  go_wp2
  go_ret
  exact ⟨by first | rfl | (rw [e]) | simp [e], rfl⟩
set_option maxRecDepth 100000 in
theorem isDigit_any (x : UInt8) (w : World) : Calls Tryz.prog 170 #[.int .u8 (x.toNat : Int)] w fun e w' => e = .returned (.bool (Rr.digB x)) ∧ w' = w := by
  have e : Rr.digB x = (decide ((48 : Int) ≤ (x.toNat : Int)) && decide ((x.toNat : Int) ≤ 57)) := by
    unfold Rr.digB
    congr 1 <;> rw [decide_eq_decide] <;> omega
  rw [e]
  by_cases h1 : (48 : Int) ≤ (x.toNat : Int) <;> by_cases h2 : (x.toNat : Int) ≤ 57
  all_goals
    go_enter Tryz.func170, Tryz.ntmps170
    go_wp2
    go_ret
    exact ⟨by simp [h1, h2], rfl⟩
theorem ba3_0 (x p y : UInt8) (h : 0 < (⟨#[x, p, y]⟩ : ByteArray).size) : (⟨#[x, p, y]⟩ : ByteArray)[0]'h = x := rfl
theorem ba3_1 (x p y : UInt8) (h : 1 < (⟨#[x, p, y]⟩ : ByteArray).size) : (⟨#[x, p, y]⟩ : ByteArray)[1]'h = p := rfl
theorem ba3_2 (x p y : UInt8) (h : 2 < (⟨#[x, p, y]⟩ : ByteArray).size) : (⟨#[x, p, y]⟩ : ByteArray)[2]'h = y := rfl
attribute [local go_sem] ba3_0 ba3_1 ba3_2
set_option maxRecDepth 100000 in
set_option maxHeartbeats 2000000 in
theorem isVersion_any (s : List UInt8) (w : World) (hs : s.length ≤ 1000000) : Calls Tryz.prog 143 #[.string ⟨s.toArray⟩] w fun e w' => e = .returned (.bool (Rr.verB s)) ∧ w' = w := by
  have hc := Tryz.strings_CutPrefix ⟨s.toArray⟩ ⟨#[72, 84, 84, 80, 47]⟩ w
  rw [show (⟨s.toArray⟩ : ByteArray).data.toList = s from rfl, show (⟨#[72, 84, 84, 80, 47]⟩ : ByteArray).data.toList = Rr.protoL from rfl] at hc
  have hd := Lib.hid (fun x W => isDigit_any x W)
  have hpre : Lib.hasPrefix s Rr.protoL = (s.take 5 == Rr.protoL) := by
    unfold Lib.hasPrefix
    rw [Bool.eq_iff_iff, List.isPrefixOf_iff_prefix, beq_iff_eq, List.prefix_iff_eq_take]
    exact eq_comm
  have htr : Lib.trimPrefix s Rr.protoL = if Lib.hasPrefix s Rr.protoL = true then s.drop 5 else s := by
    unfold Lib.trimPrefix
    rfl
  rw [htr, hpre] at hc
  unfold Rr.verB
  cases hp : (s.take 5 == Rr.protoL) with
  | false =>
    rw [hp] at hc
    have hc' := Lib.hid hc
    clear hc hpre htr hp
    go_enter Tryz.func143, Tryz.ntmps143
    go_wp2_with (go_at_call 169; (with_reducible refine Calls.mono hc'.out ?_); rintro e w2 ⟨rfl, hw2⟩; obtain rfl := hw2.symm)
    go_ret
    exact ⟨rfl, rfl⟩
  | true =>
    rw [hp, if_pos rfl] at hc
    have hdl : (s.drop 5).length ≤ 1000000 := by rw [List.length_drop]; omega
    clear hpre htr hp
    generalize s.drop 5 = d at *
    have hc' := Lib.hid hc
    clear hc
    by_cases h3 : d.length = 3
    · obtain ⟨x, p, y, rfl⟩ : ∃ x p y, d = [x, p, y] := by
        match d, h3 with
        | [x, p, y], _ => exact ⟨x, p, y, rfl⟩
      have hpp : (p == (46 : UInt8)) = decide ((p.toNat : Int) = 46) := by
        rw [Bool.eq_iff_iff, beq_iff_eq, decide_eq_true_iff]
        constructor
        · rintro rfl; rfl
        · intro h
          apply UInt8.toNat.inj
          show p.toNat = 46
          omega
      unfold Rr.verD
      simp only [hpp]
      by_cases h46 : (p.toNat : Int) = 46
      all_goals
        cases hx : Rr.digB x <;> cases hy : Rr.digB y
        all_goals
          have d1 := Lib.hid (fun W => hd.out x W)
          have d2 := Lib.hid (fun W => hd.out y W)
          rw [hx] at d1
          rw [hy] at d2
          go_enter Tryz.func143, Tryz.ntmps143
          go_wp2_with (first
            | (go_at_call 169; (with_reducible refine Calls.mono hc'.out ?_); rintro e w2 ⟨rfl, hw2⟩; obtain rfl := hw2.symm)
            | (go_at_call 170; (with_reducible refine Calls.mono (d1.out _) ?_); rintro e w3 ⟨rfl, hw3⟩; obtain rfl := hw3.symm)
            | (go_at_call 170; (with_reducible refine Calls.mono (d2.out _) ?_); rintro e w4 ⟨rfl, hw4⟩; obtain rfl := hw4.symm))
          go_ret
          exact ⟨by simp [h46], rfl⟩
    · have hm : Rr.verD d = false := by
        match d, h3 with
        | [], _ => rfl
        | [_], _ => rfl
        | [_, _], _ => rfl
        | [_, _, _], h => exact absurd rfl h
        | _ :: _ :: _ :: _ :: _, _ => rfl
      have h3I : ¬ (d.length : Int) = 3 := by omega
      have h3b : ((d.length : Int) == 3) = false := by rw [beq_eq_false_iff_ne]; exact h3I
      rw [hm]
      clear hm
      go_enter Tryz.func143, Tryz.ntmps143
      go_wp2_with (go_at_call 169; (with_reducible refine Calls.mono hc'.out ?_); rintro e w2 ⟨rfl, hw2⟩; obtain rfl := hw2.symm)
      go_ret
      exact ⟨rfl, rfl⟩
end Go.Proofs.YtbmemkbfignlaaaGreatDoor

namespace Go.Proofs.YtbmemkbfignlaaaGreatDoor
open Go.RowKit Go.Shelf
attribute [local go_sem] Oper.semAt_some

/-! ## What the statuses ask, one by one -/
def AskR (L : Rr.Lk) (j : Nat) (w : World) (e : Ending) (w' : World) : Prop := e = .returned (.bool (Rr.chk L j)) ∧ Below w.heap.size w w'
set_option maxRecDepth 100000 in
set_option maxHeartbeats 2000000 in
theorem ask0 (b : Nat) (L : Rr.Lk) (w : World) (h : LkE w b L) (hF : FewLk L) : Calls Tryz.prog 114 #[.pointer (some ⟨b, 0, none⟩)] w (AskR L 0 w) := by
  unfold AskR Rr.chk
  have ht := Lib.hid (token_any L.method w (by have := hF.method; omega))
  unfold BoolR at ht
  have hv := Lib.hid (fun W => isVersion_any L.version W (by have := hF.version; omega))
  have hk := Lib.hid (fun W (hb : Below w.heap.size w W) => h.below hb)
  obtain ⟨A, c, B1, c1, B2, c2, h1, -⟩ := h.box
  have k2 := h1.cell 2
  have k := Lib.hid (fun W (hb : Below w.heap.size w W) => show W.cell? ⟨b, 3, none⟩ = some (.string ⟨L.version.toArray⟩) ∧ W.cell? ⟨b, 6, none⟩ = some (.bool L.aims) from ⟨(h1.below hb h1.lt).cell 3, (h1.below hb h1.lt).cell 6⟩)
  clear h h1 hF hk
  obtain ⟨f, l, method, version, t, aims⟩ := L
  simp only at *
  generalize tokenL method = x at *
  generalize Rr.verB version = y at *
  cases x <;> cases aims <;> cases y
  all_goals
    go_enter Tryz.func114, Tryz.ntmps114
    go_wp2_with (first
      | (go_at_call 111; (with_reducible refine Calls.mono ht.out ?_); rintro e w2 ⟨rfl, hb2⟩; obtain ⟨y3, y6⟩ := k.out _ hb2; have hb2' := Lib.hid hb2; clear hb2)
      | (go_at_call 143; (with_reducible refine Calls.mono (hv.out _) ?_); rintro e w3 ⟨rfl, hw3⟩; obtain rfl := hw3.symm))
    go_ret
    exact ⟨rfl, hb2'.out⟩
set_option maxRecDepth 100000 in
set_option maxHeartbeats 2000000 in
theorem ask1 (b : Nat) (L : Rr.Lk) (w : World) (h : LkE w b L) (hF : FewLk L) : Calls Tryz.prog 115 #[.pointer (some ⟨b, 0, none⟩)] w (AskR L 1 w) := by
  unfold AskR Rr.chk
  have ho := Lib.hid (isOld_any b L w h)
  have hm := Lib.hid (show Calls Tryz.prog 144 #[.pointer (some ⟨b, 0, none⟩), .string ⟨#[104, 111, 115, 116]⟩] w fun e w' => e = .returned (.int .i64 ((Rr.vals Rr.hostL L.l).length : Int)) ∧ Below w.heap.size w w' from many_any b L Rr.hostL w h hF (by decide))
  have e : decide ((Rr.vals Rr.hostL L.l).length ≠ 1) = decide (((Rr.vals Rr.hostL L.l).length : Int) ≠ 1) := by rw [decide_eq_decide]; omega
  rw [e]
  generalize ((Rr.vals Rr.hostL L.l).length : Int) = m at *
  generalize (L.version == Rr.olderL) = x at *
  clear h hF e
  cases x
  · by_cases h1 : m = 1
    · subst h1
      go_enter Tryz.func115, Tryz.ntmps115
      go_wp2_with (first
        | (go_at_call 67; (with_reducible refine Calls.mono ho.out ?_); rintro e w3 ⟨rfl, hw3⟩; obtain rfl := hw3.symm)
        | (go_at_call 144; (with_reducible refine Calls.mono hm.out ?_); rintro e w2 ⟨rfl, hb2⟩; have hb2' := Lib.hid hb2; clear hb2))
      go_ret
      exact ⟨by simp, hb2'.out⟩
    · have hne : (m == 1) = false := by rw [beq_eq_false_iff_ne]; exact h1
      have hne2 : (m != 1) = true := by rw [bne_iff_ne]; exact h1
      go_enter Tryz.func115, Tryz.ntmps115
      go_wp2_with (first
        | (go_at_call 67; (with_reducible refine Calls.mono ho.out ?_); rintro e w3 ⟨rfl, hw3⟩; obtain rfl := hw3.symm)
        | (go_at_call 144; (with_reducible refine Calls.mono hm.out ?_); rintro e w2 ⟨rfl, hb2⟩; have hb2' := Lib.hid hb2; clear hb2))
      go_ret
      exact ⟨by simp [h1], hb2'.out⟩
  · clear hm
    go_enter Tryz.func115, Tryz.ntmps115
    go_wp2_with (go_at_call 67; (with_reducible refine Calls.mono ho.out ?_); rintro e w3 ⟨rfl, hw3⟩; obtain rfl := hw3.symm)
    go_ret
    exact ⟨rfl, Below.refl _ _⟩
set_option maxRecDepth 100000 in
set_option maxHeartbeats 2000000 in
theorem ask2 (b : Nat) (L : Rr.Lk) (w : World) (h : LkE w b L) (hF : FewLk L) : Calls Tryz.prog 116 #[.pointer (some ⟨b, 0, none⟩)] w (AskR L 2 w) := by
  unfold AskR Rr.chk
  have hm := Lib.hid (show Calls Tryz.prog 144 #[.pointer (some ⟨b, 0, none⟩), .string ⟨#[116, 114, 97, 110, 115, 102, 101, 114, 45, 101, 110, 99, 111, 100, 105, 110, 103]⟩] w fun e w' => e = .returned (.int .i64 ((Rr.vals Rr.encL L.l).length : Int)) ∧ Below w.heap.size w w' from many_any b L Rr.encL w h hF (by decide))
  have e : decide (0 < (Rr.vals Rr.encL L.l).length) = decide (((0 : Nat) : Int) < ((Rr.vals Rr.encL L.l).length : Int)) := by rw [decide_eq_decide]; omega
  rw [e]
  generalize ((Rr.vals Rr.encL L.l).length : Int) = m at *
  clear h hF e
  go_enter Tryz.func116, Tryz.ntmps116
  go_wp2_with (go_at_call 144; (with_reducible refine Calls.mono hm.out ?_); rintro e w2 ⟨rfl, hb2⟩; have hb2' := Lib.hid hb2; clear hb2)
  go_ret
  exact ⟨rfl, hb2'.out⟩
set_option maxRecDepth 100000 in
set_option maxHeartbeats 2000000 in
theorem ask4 (b : Nat) (L : Rr.Lk) (w : World) (h : LkE w b L) (hF : FewLk L) : Calls Tryz.prog 118 #[.pointer (some ⟨b, 0, none⟩)] w (AskR L 4 w) := by
  unfold AskR Rr.chk
  have hm := Lib.hid (show Calls Tryz.prog 144 #[.pointer (some ⟨b, 0, none⟩), .string ⟨#[108, 97, 115, 116, 45, 101, 118, 101, 110, 116, 45, 105, 100]⟩] w fun e w' => e = .returned (.int .i64 ((Rr.vals Rr.lidL L.l).length : Int)) ∧ Below w.heap.size w w' from many_any b L Rr.lidL w h hF (by decide))
  have e : decide (1 < (Rr.vals Rr.lidL L.l).length) = decide (((1 : Nat) : Int) < ((Rr.vals Rr.lidL L.l).length : Int)) := by rw [decide_eq_decide]; omega
  rw [e]
  generalize ((Rr.vals Rr.lidL L.l).length : Int) = m at *
  clear h hF e
  go_enter Tryz.func118, Tryz.ntmps118
  go_wp2_with (go_at_call 144; (with_reducible refine Calls.mono hm.out ?_); rintro e w2 ⟨rfl, hb2⟩; have hb2' := Lib.hid hb2; clear hb2)
  go_ret
  exact ⟨rfl, hb2'.out⟩
set_option maxRecDepth 100000 in
set_option maxHeartbeats 2000000 in
theorem ask3 (b : Nat) (L : Rr.Lk) (w : World) (h : LkE w b L) (hF : FewLk L) : Calls Tryz.prog 117 #[.pointer (some ⟨b, 0, none⟩)] w (AskR L 3 w) := by
  unfold AskR Rr.chk
  have hm := Lib.hid (show Calls Tryz.prog 66 #[.pointer (some ⟨b, 0, none⟩), .string ⟨#[99, 111, 110, 116, 101, 110, 116, 45, 108, 101, 110, 103, 116, 104]⟩] w fun e w' => e = .returned (.tuple #[.string ⟨(Rr.joinL (Rr.vals Rr.lengL L.l)).toArray⟩, .int .i64 ((Rr.vals Rr.lengL L.l).length : Int)]) ∧ Below w.heap.size w w' from values_any b L Rr.lengL w h hF (by decide))
  have e : decide (0 < (Rr.vals Rr.lengL L.l).length) = decide ((0 : Int) < ((Rr.vals Rr.lengL L.l).length : Int)) := by rw [decide_eq_decide]; omega
  rw [e]
  generalize ((Rr.vals Rr.lengL L.l).length : Int) = m at *
  generalize Rr.joinL (Rr.vals Rr.lengL L.l) = s at *
  clear h hF e
  by_cases h0 : (0 : Int) < m
  · cases hs : s == [48]
    all_goals
      go_enter Tryz.func117, Tryz.ntmps117
      go_wp2_with (go_at_call 66; (with_reducible refine Calls.mono hm.out ?_); rintro e w2 ⟨rfl, hb2⟩; have hb2' := Lib.hid hb2; clear hb2)
      go_ret
      exact ⟨by simp [h0], hb2'.out⟩
  · go_enter Tryz.func117, Tryz.ntmps117
    go_wp2_with (go_at_call 66; (with_reducible refine Calls.mono hm.out ?_); rintro e w2 ⟨rfl, hb2⟩; have hb2' := Lib.hid hb2; clear hb2)
    go_ret
    exact ⟨by simp; intro h; omega, hb2'.out⟩
set_option maxRecDepth 100000 in
set_option maxHeartbeats 2000000 in
theorem ask5 (b : Nat) (L : Rr.Lk) (w : World) (h : LkE w b L) : Calls Tryz.prog 119 #[.pointer (some ⟨b, 0, none⟩)] w (AskR L 5 w) := by
  unfold AskR Rr.chk
  obtain ⟨A, c, B1, c1, B2, c2, h1, -⟩ := h.box
  have k3 := h1.cell 3
  generalize L.version = v at *
  clear h h1
  rw [show Rr.newerL = [72, 84, 84, 80, 47, 49, 46, 49] from rfl, show Rr.olderL = [72, 84, 84, 80, 47, 49, 46, 48] from rfl]
  cases hx : v == [72, 84, 84, 80, 47, 49, 46, 49] <;> cases hy : v == [72, 84, 84, 80, 47, 49, 46, 48]
  all_goals
    go_enter Tryz.func119, Tryz.ntmps119
    go_wp2
    go_ret
    exact ⟨rfl, Below.refl _ _⟩
set_option maxRecDepth 100000 in
set_option maxHeartbeats 2000000 in
theorem ask6 (b : Nat) (L : Rr.Lk) (w : World) (h : LkE w b L) : Calls Tryz.prog 120 #[.pointer (some ⟨b, 0, none⟩)] w (AskR L 6 w) := by
  unfold AskR Rr.chk
  obtain ⟨A, c, B1, c1, B2, c2, h1, -⟩ := h.box
  have k3 := h1.cell 2
  generalize L.method = v at *
  clear h h1
  rw [show Rr.getL = [71, 69, 84] from rfl]
  cases hx : v == [71, 69, 84]
  all_goals
    go_enter Tryz.func120, Tryz.ntmps120
    go_wp2
    go_ret
    exact ⟨rfl, Below.refl _ _⟩
set_option maxRecDepth 100000 in
set_option maxHeartbeats 2000000 in
theorem ask7 (b : Nat) (L : Rr.Lk) (w : World) (h : LkE w b L) (hF : FewLk L) (hT : TabA w) : Calls Tryz.prog 121 #[.pointer (some ⟨b, 0, none⟩)] w (AskR L 7 w) := by
  unfold AskR Rr.chk
  have hm := Lib.hid (show Calls Tryz.prog 66 #[.pointer (some ⟨b, 0, none⟩), .string ⟨#[97, 99, 99, 101, 112, 116]⟩] w fun e w' => e = .returned (.tuple #[.string ⟨(Rr.joinL (Rr.vals Rr.accL L.l)).toArray⟩, .int .i64 ((Rr.vals Rr.accL L.l).length : Int)]) ∧ Below w.heap.size w w' from values_any b L Rr.accL w h hF (by decide))
  have htk := Lib.hid (fun W (hb : Below w.heap.size w W) => show Calls Tryz.prog 145 #[.string ⟨(Rr.joinL (Rr.vals Rr.accL L.l)).toArray⟩, .string ⟨#[116, 101, 120, 116]⟩, .string ⟨#[101, 118, 101, 110, 116, 45, 115, 116, 114, 101, 97, 109]⟩] W fun e w' => e = .returned (.bool (decide (0 < (Ac.quality (Rr.joinL (Rr.vals Rr.accL L.l)) Rr.kindL Rr.subL).getD 0))) ∧ Below W.heap.size W w' from takesA_any (Rr.joinL (Rr.vals Rr.accL L.l)) Rr.kindL Rr.subL W (hT.below hb) (by have := (hF.vals Rr.accL).2; omega) (by decide) (by decide))
  obtain ⟨A, c, B1, c1, B2, c2, h1, h2, h3, h4⟩ := h.box
  have k := Lib.hid (fun W (hb : Below w.heap.size w W) => show W.cell? ⟨b, 4, none⟩ = some (.slice B1 L.t.1.length c1) ∧ W.cell? ⟨b, 5, none⟩ = some (.slice B2 L.t.2.length c2) from ⟨(h1.below hb h1.lt).cell 4, (h1.below hb h1.lt).cell 5⟩)
  have hpt := Lib.hid (fun W (hb : Below w.heap.size w W) => pathT_any B1 B2 L.t.2.length c1 c2 L.t.1 W hF.path hF.part (h3.below hb))
  unfold StrR at hpt
  rw [show Rr.kindL = [116, 101, 120, 116] from rfl, show Rr.subL = [101, 118, 101, 110, 116, 45, 115, 116, 114, 101, 97, 109] from rfl] at htk ⊢
  rw [show Rr.healthL = [47, 104, 101, 97, 108, 116, 104] from rfl]
  generalize ((Rr.vals Rr.accL L.l).length : Int) = m at *
  generalize Rr.joinL (Rr.vals Rr.accL L.l) = s at *
  generalize decide (0 < (Ac.quality s [116, 101, 120, 116] [101, 118, 101, 110, 116, 45, 115, 116, 114, 101, 97, 109]).getD 0) = x at *
  generalize pathP L.t.1 = p at *
  clear h hF h1 h2 h3 h4 hT
  cases x
  · cases hp : p == [47, 104, 101, 97, 108, 116, 104]
    all_goals
      go_enter Tryz.func121, Tryz.ntmps121
      go_wp2_with (first
        | (go_at_call 66; (with_reducible refine Calls.mono hm.out ?_); rintro e w2 ⟨rfl, hb2⟩; have hb2' := Lib.hid hb2; clear hb2)
        | (go_at_call 145; (with_reducible refine Calls.mono (htk.out _ hb2'.out) ?_); rintro e w3 ⟨rfl, hb3⟩; obtain ⟨y4, y5⟩ := k.out _ (below_on hb2'.out hb3); have hb3' := Lib.hid (below_on hb2'.out hb3); clear hb3)
        | (go_at_call 146; (with_reducible refine Calls.mono (hpt.out _ hb3'.out) ?_); rintro e w4 ⟨rfl, hb4⟩; have hb4' := Lib.hid (below_on hb3'.out hb4); clear hb4))
      go_ret
      exact ⟨by first | rfl | simp, hb4'.out⟩
  · clear hpt
    go_enter Tryz.func121, Tryz.ntmps121
    go_wp2_with (first
      | (go_at_call 66; (with_reducible refine Calls.mono hm.out ?_); rintro e w2 ⟨rfl, hb2⟩; have hb2' := Lib.hid hb2; clear hb2)
      | (go_at_call 145; (with_reducible refine Calls.mono (htk.out _ hb2'.out) ?_); rintro e w3 ⟨rfl, hb3⟩; have hb3' := Lib.hid (below_on hb2'.out hb3); clear hb3))
    go_ret
    exact ⟨rfl, hb3'.out⟩
set_option maxRecDepth 100000 in
theorem ask8 (b : Nat) (L : Rr.Lk) (w : World) : Calls Tryz.prog 122 #[.pointer (some ⟨b, 0, none⟩)] w (AskR L 8 w) := by
  unfold AskR Rr.chk
  go_enter Tryz.func122, Tryz.ntmps122
  go_wp2
  go_ret
  exact ⟨rfl, Below.refl _ _⟩
end Go.Proofs.YtbmemkbfignlaaaGreatDoor
