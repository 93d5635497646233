import Derived.Test.YthnmphnolgmfhaaDoorTkHa
import Derived.Test.YthnmphnolgmfhaaDoorTkG
import Derived.Test.YthnmphnolgmfhaaDoorTkT
import Derived.BigQuiet
namespace Go.Proofs.YthnmphnolgmfhaaDoor
open Go.RowKit
attribute [local go_sem] Oper.semAt_some

/-! ## Lists of texts -/
/-- Texts in a row. -/
def SL (W : World) (A : Option Addr) (ls : List (List UInt8)) : Prop := ∃ (g : Nat) (cs : Array Value), (0 < ls.length → A = some ⟨g, 0, none⟩ ∧ Has W g 9 cs) ∧ ∀ (j : Nat) (y : List UInt8), ls[j]? = some y → cs[j]? = some (Value.string ⟨y.toArray⟩)
theorem SL.below {W W' : World} {A : Option Addr} {ls : List (List UInt8)} (h : SL W A ls) (hb : Below W.heap.size W W') : SL W' A ls := by
  obtain ⟨g, cs, h1, h2⟩ := h
  exact ⟨g, cs, fun h0 => ⟨(h1 h0).1, (h1 h0).2.below hb (h1 h0).2.lt⟩, h2⟩
theorem Strs.sl {W : World} {n0 : Nat} {v : Value} {ls : List (List UInt8)} (h : Strs W n0 v ls) : ∃ A c, v = .slice A ls.length c ∧ SL W A ls := by
  obtain ⟨A, g, c, cur, rfl, h1, h2⟩ := h.shape
  exact ⟨A, c, rfl, g, cur, fun h0 => ⟨(h1 h0).1, (h1 h0).2.2⟩, h2⟩
/-- The same, where there is one at least. -/
theorem SL.some {W : World} {A : Option Addr} {ls : List (List UInt8)} (h : SL W A ls) (h0 : 0 < ls.length) : ∃ (g : Nat) (cs : Array Value), A = some ⟨g, 0, none⟩ ∧ Has W g 9 cs ∧ ∀ (j : Nat) (y : List UInt8), ls[j]? = some y → cs[j]? = some (Value.string ⟨y.toArray⟩) := by
  obtain ⟨g, cs, h1, h2⟩ := h
  exact ⟨g, cs, (h1 h0).1, (h1 h0).2, h2⟩
def StrsR (ls : List (List UInt8)) (w : World) (e : Ending) (w' : World) : Prop := ∃ v, e = .returned v ∧ Strs w' w.heap.size v ls ∧ Below w.heap.size w w'
theorem take_next {α : Type} (ls : List α) {j : Nat} (hj : j < ls.length) : ls.take (j + 1) = ls.take j ++ [ls[j]] := List.take_succ_eq_append_getElem hj
set_option maxRecDepth 100000 in
set_option maxHeartbeats 2000000 in
theorem trimmedL_any (g c : Nat) (cs : Array Value) (ls : List (List UInt8)) (w : World) (hh : Has w g 9 cs) (hcs : ∀ (j : Nat) (y : List UInt8), ls[j]? = some y → cs[j]? = some (Value.string ⟨y.toArray⟩)) (hn : ls.length ≤ 100000) (hl : ∀ y ∈ ls, y.length ≤ 1000000) :
    Calls Tryd.prog 32 #[.slice (some ⟨g, 0, none⟩) ls.length c] w (StrsR (ls.map trimL) w) := by
  unfold StrsR
  have hcs' := Lib.hid hcs
  have hl' := Lib.hid hl
  have hh' := Lib.hid hh
  obtain ⟨n, hn'⟩ : ∃ n, ls.length = n := ⟨_, rfl⟩
  rw [hn'] at hn ⊢
  have hgl := hh.lt
  clear hcs hl hh
  go_enter Tryd.func32, Tryd.ntmps32
  go_wp2
  go_loopw [3, 8] (fun v x W => ∃ j : Nat, j ≤ n ∧ x = .int .i64 (j : Int) ∧ Strs W w.heap.size v ((ls.take j).map trimL) ∧ Below w.heap.size w W) (fun _ x _ => n - (intOf x).toNat)
  case atStart => exact ⟨0, Nat.zero_le _, rfl, strs_nil _ _, Below.refl _ _⟩
  case round =>
    obtain ⟨j, hj, rfl, hst, hb⟩ := hrel
    by_cases hlt : j < n
    · have hltI : (j : Int) < (n : Int) := by omega
      have hj2 : j < ls.length := by omega
      have ck := (hh'.out.below hb hgl).cell j
      rw [hcs'.out j _ (List.getElem?_eq_getElem hj2)] at ck
      have hyl := hl'.out _ (List.getElem_mem hj2)
      have htr := Lib.hid (trim_any ls[j] wr hyl)
      have htk := Lib.hid (take_next ls hj2)
      obtain ⟨A3, g3, c3, cur3, hv3, _⟩ := hst.shape
      obtain ⟨n3, hn3⟩ : ∃ n3, ((ls.take j).map trimL).length = n3 := ⟨_, rfl⟩
      rw [hn3] at hv3
      subst hv3
      have hn3' := Lib.hid (show ((ls.take j).map trimL).length + 1 ≤ 1000000 by simp; omega)
      have hst' := Lib.hid hst
      have hb' := Lib.hid hb
      generalize ls[j] = y at *
      clear hst hb hn3 hyl
      unfold StrR at htr
      go_wp2_with (first
        | (go_at_call 11; (with_reducible refine Calls.mono htr.out ?_); rintro e w2 ⟨rfl, hb2⟩; have hal := Lib.hid (((Below.refl w2.heap.size w2).alloc (Nat.le_refl _) (.cells #[.string ⟨(trimL y).toArray⟩] 9))); have hnew := Lib.hid (Has.new w2 9 #[.string ⟨(trimL y).toArray⟩]); have hst2 := Lib.hid ((hst'.out.below hb2).below hal.out); have hb3 := Lib.hid (hb'.out.trans (hb2.mono hb'.out.size)); have hz3 := hb3.out.size; clear hb2)
        | (at_builtin; refine wpList_append_str rfl _ _ rfl rfl hst2.out _ (trimL y) rfl hnew.out hn3'.out (by simp; omega) ?_; intro v4 w4 ho4 hg4; have ho4' := Lib.hid ho4; have hg4' := Lib.hid hg4; clear ho4 hg4))
      exact ⟨⟨j + 1, by omega, by go_num, by rw [htk.out, List.map_append]; exact ho4'.out, ((hb3.out.trans (hal.out.mono hz3)).grown hg4'.out (by simp; omega) (fun g e => (hst2.out.own g e).1))⟩, by simp [intOf]; omega⟩
    · obtain rfl : j = n := by omega
      have hst' := Lib.hid hst
      have hb' := Lib.hid hb
      clear hst hb
      go_wp2
      go_ret
      exact ⟨_, rfl, by have := hst'.out; rwa [List.take_of_length_le (by omega)] at this, hb'.out⟩
theorem full_any (s : List UInt8) (w : World) : Calls Tryd.prog 31 #[.string ⟨s.toArray⟩] w fun e w' => e = .returned (.bool (!s.isEmpty)) ∧ w' = w := by
  go_enter Tryd.func31, Tryd.ntmps31
  go_wp2
  go_ret
  refine ⟨?_, rfl⟩
  cases s <;> rfl
set_option maxRecDepth 100000 in
set_option maxHeartbeats 2000000 in
theorem sifted_any (g c : Nat) (cs : Array Value) (ls : List (List UInt8)) (w : World) (hh : Has w g 9 cs) (hcs : ∀ (j : Nat) (y : List UInt8), ls[j]? = some y → cs[j]? = some (Value.string ⟨y.toArray⟩)) (hn : ls.length ≤ 100000) :
    Calls Tryd.prog 30 #[.func (.func 31) #[] #[], .slice (some ⟨g, 0, none⟩) ls.length c] w (StrsR (siftL ls) w) := by
  unfold StrsR
  have hcs' := Lib.hid hcs
  have hh' := Lib.hid hh
  obtain ⟨n, hn'⟩ : ∃ n, ls.length = n := ⟨_, rfl⟩
  rw [hn'] at hn ⊢
  have hgl := hh.lt
  clear hcs hh
  go_enter Tryd.func30, Tryd.ntmps30
  go_wp2
  go_loopw [5, 10] (fun v x W => ∃ j : Nat, j ≤ n ∧ x = .int .i64 (j : Int) ∧ Strs W w.heap.size v (siftL (ls.take j)) ∧ Below w.heap.size w W) (fun _ x _ => n - (intOf x).toNat)
  case atStart => exact ⟨0, Nat.zero_le _, rfl, strs_nil _ _, Below.refl _ _⟩
  case round =>
    obtain ⟨j, hj, rfl, hst, hb⟩ := hrel
    by_cases hlt : j < n
    · have hltI : (j : Int) < (n : Int) := by omega
      have hj2 : j < ls.length := by omega
      have ck := (hh'.out.below hb hgl).cell j
      rw [hcs'.out j _ (List.getElem?_eq_getElem hj2)] at ck
      have hfu := full_any ls[j] wr
      have htk := take_next ls hj2
      obtain ⟨hs1, hs2⟩ := siftL_snoc (ls.take j) ls[j]
      rw [← htk] at hs1 hs2
      obtain ⟨A3, g3, c3, cur3, hv3, _⟩ := hst.shape
      have hln : (siftL (ls.take j)).length ≤ 100000 := by
        have := siftL_len (ls.take j)
        have h2 : (ls.take j).length ≤ ls.length := by simp; omega
        omega
      obtain ⟨n3, hn3⟩ : ∃ n3, (siftL (ls.take j)).length = n3 := ⟨_, rfl⟩
      rw [hn3] at hv3 hln
      subst hv3
      have hn3' := Lib.hid hn3
      have hst' := Lib.hid hst
      have hb' := Lib.hid hb
      have hz3 := hb.size
      generalize ls[j] = y at *
      clear hst hb hn3 htk
      by_cases hy : y = []
      · have hs := Lib.hid (hs1 hy)
        have e1 : (!y.isEmpty) = false := by rw [hy]; rfl
        rw [e1] at hfu
        have hfu' := Lib.hid hfu
        clear hs1 hs2 hy e1 hfu
        go_wp2_with (go_at_call 31; (with_reducible refine Calls.mono hfu'.out ?_); rintro e w2 ⟨rfl, hw2⟩; obtain rfl := hw2.symm)
        exact ⟨⟨j + 1, by omega, by go_num, by rw [hs.out]; exact hst'.out, hb'.out⟩, by simp [intOf]; omega⟩
      · have hs := Lib.hid (hs2 hy)
        have e1 : (!y.isEmpty) = true := by cases y with
          | nil => exact absurd rfl hy
          | cons b r => rfl
        rw [e1] at hfu
        have hfu' := Lib.hid hfu
        have hal := Lib.hid (((Below.refl wr.heap.size wr).alloc (Nat.le_refl _) (.cells #[.string ⟨y.toArray⟩] 9)))
        have hnew := Lib.hid (Has.new wr 9 #[.string ⟨y.toArray⟩])
        have hst2 := Lib.hid (hst'.out.below hal.out)
        clear hs1 hs2 hy e1 hfu
        go_wp2_with (first
          | (go_at_call 31; (with_reducible refine Calls.mono hfu'.out ?_); rintro e w2 ⟨rfl, hw2⟩; obtain rfl := hw2.symm)
          | (at_builtin; refine wpList_append_str rfl _ _ rfl rfl hst2.out _ y rfl hnew.out (by rw [hn3'.out]; omega) (by simp; omega) ?_; intro v4 w4 ho4 hg4; have ho4' := Lib.hid ho4; have hg4' := Lib.hid hg4; clear ho4 hg4))
        exact ⟨⟨j + 1, by omega, by go_num, by rw [hs.out]; exact ho4'.out, ((hb'.out.trans (hal.out.mono hz3)).grown hg4'.out (by simp; omega) (fun g e => (hst2.out.own g e).1))⟩, by simp [intOf]; omega⟩
    · obtain rfl : j = n := by omega
      have hst' := Lib.hid hst
      have hb' := Lib.hid hb
      clear hst hb
      go_wp2
      go_ret
      exact ⟨_, rfl, by have := hst'.out; rwa [List.take_of_length_le (by omega)] at this, hb'.out⟩
/-- The table's length that the library asks for. -/
def MaxT (W : World) : Prop := ∃ m, Has W 0 3 #[.int .i64 m]
theorem MaxT.below {W W' : World} (h : MaxT W) (hb : Below W.heap.size W W') : MaxT W' := by
  obtain ⟨m, h⟩ := h
  exact ⟨m, h.below hb h.lt⟩
set_option maxRecDepth 100000 in
theorem items_any (s : List UInt8) (w : World) (hs : s.length ≤ 10000) (hM : MaxT w) : Calls Tryd.prog 17 #[.string ⟨s.toArray⟩] w (StrsR (itemsL s) w) := by
  unfold StrsR
  obtain ⟨m, hm⟩ := hM
  have hsp := Tryd.strings_Split ⟨s.toArray⟩ ⟨#[44]⟩ m w (by show s.toArray.size < _; simp; omega) (hm.cell 0) (by decide)
  obtain ⟨h1, h2⟩ := parts_split s.length s (Nat.le_refl _)
  have hd := Lib.splitB_data ⟨#[44]⟩ 0 (Lib.countB ⟨s.toArray⟩ ⟨#[44]⟩) ⟨s.toArray⟩
  have hc : Lib.countB ⟨s.toArray⟩ ⟨#[44]⟩ = Lib.count s [44] := rfl
  rw [hc] at hd hsp
  have hd : (Lib.splitB ⟨#[44]⟩ 0 (Lib.count s [44]) ⟨s.toArray⟩).map (·.data.toList) = commasL s := hd.trans h1
  rw [h2] at hsp
  generalize Lib.splitB ⟨#[44]⟩ 0 (Lib.count s [44]) ⟨s.toArray⟩ = bs at hd hsp
  have hsp' := Lib.hid hsp
  have hmany := commasL_many s
  have hlen : ∀ y ∈ commasL s, y.length ≤ 1000000 := fun y hy => by
    have := commasL_len s y hy
    omega
  have hne := commasL_ne s
  have hcs : ∀ (j : Nat) (y : List UInt8), (commasL s)[j]? = some y → (bs.map Value.string).toArray[j]? = some (Value.string ⟨y.toArray⟩) := fun j y h => by
    rw [← hd, List.getElem?_map] at h
    cases hb : bs[j]? with
    | none => rw [hb] at h; cases h
    | some b =>
      rw [hb] at h
      obtain rfl : b.data.toList = y := by simpa using h
      rw [List.getElem?_toArray, List.getElem?_map, hb]
      rfl
  have hk := Has.new w 9 (bs.map Value.string).toArray
  have hb1 : Below w.heap.size w (w.alloc (.cells (bs.map Value.string).toArray 9)) := (Below.refl _ _).alloc (Nat.le_refl _) _
  have htr := Lib.hid (trimmedL_any w.heap.size (commasL s).length _ (commasL s) _ hk hcs (by omega) hlen)
  have hit : siftL ((commasL s).map trimL) = itemsL s := rfl
  have hlen2 : ((commasL s).map trimL).length = (commasL s).length := by simp
  have h0 : 0 < ((commasL s).map trimL).length := by
    rw [hlen2]
    exact List.length_pos_iff.2 hne
  unfold StrsR at htr
  generalize commasL s = ls at *
  generalize htl : ls.map trimL = ts at *
  have hsi : ∀ (W : World) (A : Option Addr) (c : Nat), SL W A ts → Calls Tryd.prog 30 #[.func (.func 31) #[] #[], .slice A ts.length c] W (StrsR (siftL ts) W) := fun W A c h => by
    obtain ⟨g, cs, rfl, hh, hc⟩ := h.some h0
    exact sifted_any g c cs ts W hh hc (by omega)
  rw [hit] at hsi
  unfold StrsR at hsi
  simp only [hlen2] at hsi
  have hsi' := Lib.hid hsi
  have hb1' := Lib.hid hb1
  clear hd hsp hm hc h1 h2 hlen hcs hk hb1 hsi htl hit hne h0
  go_enter Tryd.func17, Tryd.ntmps17
  go_wp2_with (first
    | (go_at_call 33; (with_reducible refine Calls.mono hsp'.out ?_); rintro e w1 ⟨rfl, rfl⟩)
    | (go_at_call 32; (with_reducible refine Calls.mono htr.out ?_); rintro e w2 ⟨v2, rfl, hv2, hb2⟩; obtain ⟨A2, c2, rfl, hs2⟩ := hv2.sl; have hb2' := Lib.hid (hb1'.out.trans (hb2.mono hb1'.out.size)); have hs2' := Lib.hid hs2; clear hv2 hb2 hs2)
    | (go_at_call 30; (with_reducible refine Calls.mono (hsi'.out _ A2 c2 hs2'.out) ?_); rintro e w3 ⟨v3, rfl, hv3, hb3⟩))
  go_ret
  exact ⟨_, rfl, hv3.mono hb2'.out.size, hb2'.out.trans (hb3.mono hb2'.out.size)⟩
/-! ## Lists compared -/
set_option maxRecDepth 100000 in
set_option maxHeartbeats 2000000 in
theorem list_any (A B : Option Addr) (c d : Nat) (xs ys : List (List UInt8)) (w : World) (hx : SL w A xs) (hy : SL w B ys) (hn : xs.length ≤ 1000000) (hm : ys.length ≤ 1000000) :
    Calls Tryd.prog 16 #[.slice A xs.length c, .slice B ys.length d] w (BoolR (xs == ys) w) := by
  unfold BoolR
  by_cases hl : xs.length = ys.length
  · obtain ⟨n, hxn⟩ : ∃ n, xs.length = n := ⟨_, rfl⟩
    have hyn : ys.length = n := by omega
    obtain ⟨g, cs, hg, hcs⟩ := hx
    obtain ⟨k, ds, hk, hds⟩ := hy
    rw [hxn] at hn hg ⊢
    rw [hyn] at hk ⊢
    have hxn' := Lib.hid hxn
    have hyn' := Lib.hid hyn
    have hg' := Lib.hid hg
    have hk' := Lib.hid hk
    have hcs' := Lib.hid hcs
    have hds' := Lib.hid hds
    clear hl hxn hyn hg hk hcs hds hm
    go_enter Tryd.func16, Tryd.ntmps16
    go_wp2
    go_loopw [5] (fun x W => ∃ j : Nat, j ≤ n ∧ x = .int .i64 (j : Int) ∧ xs.take j = ys.take j ∧ Below w.heap.size w W) (fun x _ => n - (intOf x).toNat)
    case atStart => exact ⟨0, Nat.zero_le _, rfl, rfl, Below.refl _ _⟩
    case round =>
      obtain ⟨j, hj, rfl, he, hb⟩ := hrel
      have he' := Lib.hid he
      have hb' := Lib.hid hb
      clear he hb
      by_cases hlt : j < n
      · have hltI : (j : Int) < (n : Int) := by omega
        have hxj : j < xs.length := by have := hxn'.out; omega
        have hyj : j < ys.length := by have := hyn'.out; omega
        obtain ⟨rfl, hg⟩ := hg'.out (by omega)
        obtain ⟨rfl, hk⟩ := hk'.out (by omega)
        have c1 := (hg.below hb'.out hg.lt).cell j
        rw [hcs'.out j _ (List.getElem?_eq_getElem hxj)] at c1
        have c2 := (hk.below hb'.out hk.lt).cell j
        rw [hds'.out j _ (List.getElem?_eq_getElem hyj)] at c2
        have h1 := Lib.hid (take_next xs hxj)
        have h2 := Lib.hid (take_next ys hyj)
        have hne := Lib.hid (show xs[j] ≠ ys[j] → (xs == ys) = false from fun h => by
          rw [beq_eq_false_iff_ne]
          rintro rfl
          exact h rfl)
        generalize xs[j] = x at *
        generalize ys[j] = y at *
        clear hg hk
        by_cases hxy : x = y
        · subst hxy
          go_wp2
          go_quiet (fail)
          go_wp2
          exact ⟨⟨j + 1, by omega, by go_num, by rw [h1.out, h2.out, he'.out], below_draws hb'.out _⟩, by simp [intOf]; omega⟩
        · have hq : (x == y) = false := by rw [beq_eq_false_iff_ne]; exact hxy
          have hr := Lib.hid (hne.out hxy)
          clear hxy
          go_wp2
          go_quiet (fail)
          go_wp2
          go_ret
          exact ⟨by rw [hr.out]; rfl, below_draws hb'.out _⟩
      · obtain rfl : j = n := by omega
        have hr := Lib.hid (show (xs == ys) = true by
          have := he'.out
          rw [List.take_of_length_le (by have := hxn'.out; omega), List.take_of_length_le (by have := hyn'.out; omega)] at this
          rw [this, beq_self_eq_true])
        go_wp2
        go_ret
        exact ⟨by rw [hr.out]; rfl, hb'.out⟩
  · have hne : (xs == ys) = false := by
      rw [beq_eq_false_iff_ne]
      rintro rfl
      exact hl rfl
    rw [hne]
    have hq : ((xs.length : Int) == (ys.length : Int)) = false := by rw [beq_eq_false_iff_ne]; omega
    clear hx hy
    generalize xs.length = n at *
    generalize ys.length = m at *
    go_enter Tryd.func16, Tryd.ntmps16
    go_wp2
    go_ret
    exact ⟨rfl, Below.refl _ _⟩
end Go.Proofs.YthnmphnolgmfhaaDoor
