import Derived.Test.YtlcfpnegpihicaaGreatDoorPw16
import Derived.Lib.MinMax
import Derived.Test.YtlcfpnegpihicaaGreatDoorPw5
import Derived.BigQuiet
import Derived.Deep.QuietTactic
import Derived.Deep.RegionHeld3
namespace Go.Proofs.YtlcfpnegpihicaaGreatDoor
open Go.RowKit Go.Shelf
attribute [local go_sem] Oper.semAt_some
attribute [local go_sem] wide_fn wide_depth wide_round

/-! ## Pieces come: the lines that end with them, each with its number -/
def runC (most : Nat) : CSt → List (List UInt8) → List (List UInt8 × Bool) × CSt
  | s, [] => ([], s)
  | s, x :: r => ((stepC most s x).1 ++ (runC most (stepC most s x).2 r).1, (runC most (stepC most s x).2 r).2)
theorem runC_append (most : Nat) : ∀ (a b : List (List UInt8)) (s : CSt), runC most s (a ++ b) = ((runC most s a).1 ++ (runC most (runC most s a).2 b).1, (runC most (runC most s a).2 b).2)
  | [], b, s => by simp [runC]
  | x :: r, b, s => by
    have ih := runC_append most r b (stepC most s x).2
    simp only [List.cons_append, runC, ih, List.append_assoc]
theorem runC_next (most : Nat) (s : CSt) {xs : List (List UInt8)} {k : Nat} {x : List UInt8} (h : xs[k]? = some x) :
    runC most s (xs.take (k + 1)) = ((runC most s (xs.take k)).1 ++ (stepC most (runC most s (xs.take k)).2 x).1, (stepC most (runC most s (xs.take k)).2 x).2) := by
  obtain ⟨hk, rfl⟩ := List.getElem?_eq_some_iff.1 h
  rw [List.take_succ_eq_append_getElem hk, runC_append]
  simp [runC]
theorem runC_le (most : Nat) (s : CSt) (xs : List (List UInt8)) (k : Nat) : ∃ r, (runC most s xs).1 = (runC most s (xs.take k)).1 ++ r := by
  refine ⟨(runC most (runC most s (xs.take k)).2 (xs.drop k)).1, ?_⟩
  conv => lhs; rw [← List.take_append_drop k xs, runC_append]
theorem runC_ok {most : Nat} : ∀ (xs : List (List UInt8)) (s : CSt), s.ok most → (runC most s xs).2.ok most
  | [], _, h => h
  | _ :: r, _, h => runC_ok r _ (stepC_ok h _)
/-- Things with their numbers. -/
def numL : Nat → List (List UInt8 × Bool) → List (Nat × List UInt8 × Bool)
  | _, [] => []
  | n, x :: r => (n, x) :: numL (n + 1) r
theorem numL_append : ∀ (a b : List (List UInt8 × Bool)) (n : Nat), numL n (a ++ b) = numL n a ++ numL (n + a.length) b
  | [], b, n => by simp [numL]
  | x :: r, b, n => by
    simp only [List.cons_append, numL, numL_append r b (n + 1), List.length_cons]
    rw [show n + 1 + r.length = n + (r.length + 1) from by omega]
theorem numL_length : ∀ (a : List (List UInt8 × Bool)) (n : Nat), (numL n a).length = a.length
  | [], _ => rfl
  | x :: r, n => by simp only [numL, List.length_cons, numL_length r (n + 1)]
def encLn (x : Nat × List UInt8 × Bool) : Array Value := #[.int .i64 (x.1 : Int), .agg #[.string ⟨x.2.1.toArray⟩, .bool x.2.2]]
/-- How a splitter stands in memory; its row of bytes is an old one (ob) or lies from B on, and is none of which G holds. -/
def SpW (W : World) (nb sp dp most B : Nat) (ob : Option Nat) (G : Nat → Prop) (s : CSt) : Prop :=
  ∃ vb, Has W sp 168 #[.pointer (some ⟨dp, 0, none⟩), .bool s.any, vb, .bool s.l.long, .int .i64 (most : Int), .bool s.l.half] ∧ Bs W nb vb s.l.bytes ∧ Dec W dp s.ws ∧ ∀ k, vb.ownBlock = some k → (ob = some k ∨ B ≤ k) ∧ ¬ G k
/-- So many pieces in a row, each read somewhere. -/
def PcsAt (W : World) (PA : Option Addr) (xs : List (List UInt8)) : Prop := ∀ k x, xs[k]? = some x → ∃ ad A c, PA = some ad ∧ W.cell? (ad.add k) = some (.slice A x.length c) ∧ Rd W (· < W.heap.size) A x
def lenV : Value → Nat
  | .slice _ n _ => n
  | _ => 0
section
variable {W W' : World} {nb sp dp most B n0 : Nat} {ob : Option Nat} {G Wr : Nat → Prop} {s : CSt}
theorem Dec.typed {d : Nat} {ws : List UInt8} (h : Dec W d ws) : ∃ cs, Has W d 208 cs := by obtain ⟨a, b, c, _, _, h⟩ := h; exact ⟨_, h⟩
theorem SpW.keep (h : SpW W nb sp dp most B ob G s) (hK : KeepL n0 Wr W W') (hs : ¬ Wr sp) (hd : ¬ Wr dp) (hW : ∀ k, Wr k → k < B) (ho : ∀ k, ob = some k → ¬ Wr k) : SpW W' nb sp dp most B ob G s := by
  obtain ⟨vb, h1, h2, h3, h4⟩ := h
  refine ⟨vb, hK.has (by decide) hs h1, h2.kept fun g hg => ?_, h3.kept ?_, h4⟩
  · obtain ⟨_, cs, hh⟩ := h2.own g hg
    refine (hK.has (by decide) (fun hw => ?_) hh).trans hh.symm
    rcases (h4 g hg).1 with h | h
    · exact ho g h hw
    · have := hW g hw; omega
  · obtain ⟨cs, hh⟩ := h3.typed
    exact (hK.has (by decide) hd hh).trans hh.symm
theorem SpW.below (h : SpW W nb sp dp most B ob G s) (hb : Below W.heap.size W W') : SpW W' nb sp dp most B ob G s := by
  obtain ⟨vb, h1, h2, h3, h4⟩ := h
  exact ⟨vb, h1.below hb h1.lt, h2.below hb, h3.below hb, h4⟩
theorem SpW.putObj (h : SpW W nb sp dp most B ob G s) {l : Nat} {o : Obj} (o' : Obj) (hl : W.heap[l]? = some o) (hc : o.isCells = false) : SpW (W.putObj l o') nb sp dp most B ob G s := by
  have key : ∀ {k : Nat} {t : TypeId} {cs : Array Value}, Has W k t cs → (W.putObj l o').heap[k]? = W.heap[k]? := fun {k t cs} hh => World.putObj_heap_other (fun e => by
    subst e
    have hh' : W.heap[k]? = some (.cells cs t (0, 0)) := hh
    rw [hl] at hh'
    rw [Option.some.inj hh'] at hc
    cases hc)
  obtain ⟨vb, h1, h2, h3, h4⟩ := h
  refine ⟨vb, (key h1).trans h1, h2.kept fun g hg => ?_, h3.kept ?_, h4⟩
  · obtain ⟨_, cs, hh⟩ := h2.own g hg
    exact key hh
  · obtain ⟨cs, hh⟩ := h3.typed
    exact key hh
end
theorem turn_text {B sp dp : Nat} {Ch : Nat → Prop} {w w' : World} {cs : Array Value} {ws : List UInt8} (h : Chg (fun k => k = sp ∨ k = dp) w w') (hs : Has w sp 168 cs) (hd : Dec w dp ws) (h1 : Ch sp ∨ B ≤ sp) (h2 : Ch dp ∨ B ≤ dp) : Turn B Ch w w' :=
  .of_chg h (fun k hk _ => by
    rcases hk with rfl | rfl
    · exact ⟨h1, _, _, _, hs, .inr (.inl rfl)⟩
    · obtain ⟨_, hh⟩ := hd.typed
      exact ⟨h2, _, _, _, hh, .inr (.inr rfl)⟩)
theorem turn_next {B sp nb : Nat} {Ch : Nat → Prop} {w w' : World} {cs : Array Value} {vb : Value} {l : List UInt8} (h : Chg (fun k => k = sp ∨ vb.ownBlock = some k) w w') (hs : Has w sp 168 cs) (hv : Bs w nb vb l) (h1 : Ch sp ∨ B ≤ sp) (h2 : ∀ k, vb.ownBlock = some k → Ch k ∨ B ≤ k) : Turn B Ch w w' :=
  .of_chg h (fun k hk _ => by
    rcases hk with rfl | hk
    · exact ⟨h1, _, _, _, hs, .inr (.inl rfl)⟩
    · obtain ⟨_, _, hh⟩ := hv.own k hk
      exact ⟨h2 k hk, _, _, _, hh, .inl rfl⟩)
set_option maxRecDepth 100000 in
set_option maxHeartbeats 4000000 in
theorem come1_in (n : Nat) (hn : 1 ≤ n) (l bP bS sp dp most n0 nb : Nat) (Wr : Nat → Prop) (ob : Option Nat) (PA : Option Addr) (pc : Nat) (xs : List (List UInt8)) (St : World → Prop) (W : World)
    (hWr : ∀ k, Wr k → k < n0) (hsW : ¬ Wr sp) (hdW : ¬ Wr dp) (hoW : ∀ k, ob = some k → ¬ Wr k) (hgn : 2 < nb) (hgs : 2 ≠ sp) (hnb : nb ≤ W.heap.size) (hm1 : 1 ≤ most) (hm : most ≤ 65536) (hxl : ∀ x ∈ xs, x.length ≤ 300000) (hxs : xs.length ≤ 1000000)
    (hStE : ∀ X, St X → Has X bP 76 #[.slice PA xs.length pc] ∧ Has X bS 64 #[.pointer (some ⟨sp, 0, none⟩)] ∧ PcsAt X PA xs ∧ TabU X ∧ Ends X)
    (hStT : ∀ X Y, Turn W.heap.size (fun k => k = sp ∨ k = dp ∨ ob = some k) X Y → St X → St Y) (hStK : ∀ X Y, KeepL n0 Wr X Y → St X → St Y)
    (s : CSt) (hok : s.ok most) (hN : (runC most s xs).1.length ≤ 1099511627776) (J Jx : List (Nat × List UInt8 × Bool) → World → Prop)
    (hJ : ∀ pre X Y, J pre X → Turn W.heap.size (fun k => k = sp ∨ k = dp ∨ ob = some k) X Y → J pre Y)
    (hY : ∀ pre y V, J pre V → pre.length < (runC most s xs).1.length → YieldAt Fence.wide (n - 1) Tryz.prog l (encLn y) V fun e V' => (e = .returned (.bool true) ∧ J (pre ++ [y]) V' ∧ KeepL n0 Wr V V') ∨ (e = .returned (.bool false) ∧ Jx (pre ++ [y]) V'))
    (hn0 : n0 ≤ W.heap.size) (hSt : St W) (hSp : SpW W nb sp dp most W.heap.size ob (fun _ => False) s) (h0 : J [] W) :
    CallsIn Fence.wide n Tryz.prog 100 #[.func (.yield l) #[] #[], .pointer (some ⟨bP, 0, none⟩), .pointer (some ⟨bS, 0, none⟩)] W fun e V => (∃ v, e = .returned v) ∧
      ((∃ ys, ys = numL 0 (runC most s xs).1 ∧ J ys V ∧ SpW V nb sp dp most W.heap.size ob (fun _ => False) (runC most s xs).2) ∨ (∃ pre, (∃ a b, (runC most s xs).1 = a ++ b ∧ pre = numL 0 a) ∧ Jx pre V)) := by
  have hStE' := Lib.hid hStE
  have hStT' := Lib.hid hStT
  have hStK' := Lib.hid hStK
  have hJ' := Lib.hid hJ
  have hY' := Lib.hid hY
  have hWr' := Lib.hid hWr
  have hoW' := Lib.hid hoW
  have hxl' := Lib.hid hxl
  have hSt' := Lib.hid hSt
  have hSp' := Lib.hid hSp
  have h0' := Lib.hid h0
  have hok' := Lib.hid hok
  obtain ⟨xn, hxn⟩ : ∃ xn, xs.length = xn := ⟨_, rfl⟩
  obtain ⟨e1, _, _, _, _⟩ := hStE W hSt
  rw [hxn] at e1
  have c0 := e1.cell 0
  have hxn' := Lib.hid hxn
  have hxb : xn ≤ 9223372036854775807 := by omega
  clear hStE hStT hStK hJ hY hWr hoW hxl hSt hSp h0 hok hxn e1
  refine callsIn_of_wp Tryz.func100 rfl trivial ?_ rfl
  simp only [Tryz.ntmps100, List.size_toArray, List.length_cons, List.length_nil, Nat.reduceAdd, Nat.reduceSub, Array.replicate_succ, Array.replicate_zero, List.push_toArray, List.append_toArray, List.nil_append, List.cons_append]
  refine wpIn_wide.2 ?_
  go_wp2
  go_step3
  go_wp2
  go_step3
  go_wp2
  refine (wpIn_wide (n := n)).1 ?_
  gi_loopw [4, 13] (fun x4 x13 wr => ∃ (k : Nat) (dn : List (List UInt8 × Bool)) (s' : CSt), x13 = .int .i64 (k : Int) ∧ k ≤ xn ∧ x4 = .int .i64 (dn.length : Int) ∧ runC most s (xs.take k) = (dn, s') ∧ SpW wr nb sp dp most W.heap.size ob (fun _ => False) s' ∧ J (numL 0 dn) wr ∧ St wr ∧ W.heap.size ≤ wr.heap.size)
    (fun _ x13 _ => xn - (intOf x13).toNat)
  case atStart => exact ⟨0, [], s, rfl, Nat.zero_le _, rfl, rfl, hSp'.out, h0'.out, hSt'.out, Nat.le_refl _⟩
  case round =>
    obtain ⟨k, dn, s', rfl, hk, rfl, hrun, hsp, hj, hst, hsz⟩ := hrel
    by_cases hlt : k < xn
    · obtain ⟨x, hx⟩ : ∃ x, xs[k]? = some x := ⟨xs[k]'(by have := hxn'.out; omega), List.getElem?_eq_getElem (by have := hxn'.out; omega)⟩
      obtain ⟨e1, e2, e3, hT, hE⟩ := hStE'.out wr hst
      obtain ⟨ad, A, c, hPA, hce, hrd⟩ := e3 k x hx
      subst hPA
      have c1 := e2.cell 0
      obtain ⟨vb, s1, s2, s3, s4⟩ := hsp
      have hx3 : x.length ≤ 300000 := hxl'.out x (List.mem_of_getElem? hx)
      have htx := text_any sp dp vb (.int .i64 (most : Int)) s'.any s'.l.long s'.l.half s'.ws x A x.length c wr s1 s3 rfl hrd hT (by omega)
      have hnext := runC_next most s hx
      rw [hrun] at hnext
      unfold stepC at hnext
      simp only at hnext
      have hlen : (textL s'.any (run4 (s'.ws ++ x)).1).length ≤ 1000000 := by
        have h1 := run4_len1 (s'.ws ++ x)
        have h2 := s3.len
        rw [List.length_append] at h1
        unfold textL
        split
        · have := trimL_len (run4 (s'.ws ++ x)).1; omega
        · omega
      unfold Texted at htx
      generalize textL s'.any (run4 (s'.ws ++ x)).1 = tx at htx hnext hlen
      generalize anyL s'.any (run4 (s'.ws ++ x)).1 = any2 at htx hnext
      generalize (run4 (s'.ws ++ x)).2 = ws2 at htx hnext
      obtain ⟨xl, hxle⟩ : ∃ xl, x.length = xl := ⟨_, rfl⟩
      rw [hxle] at htx hce
      have hokl := hok'.out
      have hokl2 : s'.l.ok most := by
        have := (runC_ok (xs.take k) s hokl).line
        rw [hrun] at this
        exact this
      have htx' := Lib.hid (callsIn_wide (n := n - 1).2 htx)
      have hnext' := Lib.hid hnext
      have hj' := Lib.hid hj
      have hst' := Lib.hid hst
      have s1' := Lib.hid s1
      have s2' := Lib.hid s2
      have s3' := Lib.hid s3
      have s4' := Lib.hid s4
      have hokl2' := Lib.hid hokl2
      have hki : (k : Int) < (xn : Int) := by omega
      clear htx hnext hj hst s1 s2 s3 s4 hokl hokl2 e1 e2 e3 hT hE hrd hrun hxle hx
      gi_wp2_with fail
      refine htx'.out.mono ?_
      rintro e w2 ⟨g, cs, fr, c2, rfl, ⟨hg1, hg2⟩, hr2, hc2, hc2m, hs2, hd2, hC2⟩
      have hT2 : Turn W.heap.size (fun k => k = sp ∨ k = dp ∨ ob = some k) wr w2 := turn_text hC2 s1'.out s3'.out (.inl (.inl rfl)) (.inl (.inr (.inl rfl)))
      have hj2 := Lib.hid (hJ'.out _ _ _ hj'.out hT2)
      have hst2 := Lib.hid (hStT'.out _ _ hT2 hst'.out)
      have hsz2 := hC2.size
      have hsp2 : SpW w2 nb sp dp most W.heap.size ob (· = g) ⟨ws2, any2, s'.l⟩ := by
        refine ⟨vb, hs2, s2'.out.kept fun q hq => ?_, hd2, fun q hq => ⟨(s4'.out q hq).1, fun h => ?_⟩⟩
        · obtain ⟨_, cs', hh⟩ := s2'.out.own q hq
          refine hC2.block q hh.lt (fun h => ?_)
          rcases h with rfl | rfl
          · exact Has.apart s1'.out hh (by decide) rfl
          · obtain ⟨_, hd⟩ := s3'.out.typed
            exact Has.apart hd hh (by decide) rfl
        · have := (s2'.out.own q hq).2.choose_spec.lt
          subst h
          omega
      have hsp2' := Lib.hid hsp2
      have hr2' := Lib.hid hr2
      have hg2' := Lib.hid hg2
      obtain ⟨m0, hm0⟩ : ∃ m0, tx.length = m0 := ⟨_, rfl⟩
      rw [hm0] at hc2 hlen ⊢
      have hm0' := Lib.hid hm0
      have hgW : W.heap.size ≤ g := by omega
      have hWw2 : W.heap.size ≤ w2.heap.size := by omega
      clear hT2 hsp2 hr2 hg2 hs2 hd2 hC2 hm0 hj' hst' s1' s2' s3' s4' htx' hce c1
      gi_wp2
      gi_loopw [4, 7] (fun x4 x7 wi => ∃ (em : List (List UInt8 × Bool)) (l2 : LSt) (t : List UInt8) (A2 : Option Addr) (m2 c3 : Nat), x4 = .int .i64 (em.length : Int) ∧ x7 = .slice A2 m2 c3 ∧ m2 = t.length ∧ m2 ≤ 1000000 ∧ m2 ≤ c3 ∧ c3 ≤ 9223372036854775807 ∧
          runC most s (xs.take (k + 1)) = (em ++ (runL most l2 t).1, ⟨ws2, any2, (runL most l2 t).2⟩) ∧ SpW wi nb sp dp most W.heap.size ob (· = g) ⟨ws2, any2, l2⟩ ∧ l2.ok most ∧ Rd wi (· = g) A2 t ∧ (∃ cs fr, wi.heap[g]? = some (.cells cs 5 fr)) ∧ J (numL 0 em) wi ∧ St wi ∧ W.heap.size ≤ wi.heap.size)
        (fun _ x7 _ => lenV x7)
      case atStart => exact ⟨dn, s'.l, tx, _, _, _, rfl, rfl, hm0'.out.symm, hlen, hc2, hc2m, hnext'.out, hsp2'.out, hokl2'.out, hr2'.out, ⟨_, _, hg2'.out⟩, hj2.out, hst2.out, hWw2⟩
      case round =>
        obtain ⟨em, l2, t, A2, m2, c3, rfl, rfl, hm2, hm2b, hmc, hc3, hrunI, hspI, hokI, hrI, hgI, hjI, hstI, hszI⟩ := hrel
        by_cases hpos : 0 < m2
        · obtain ⟨vb, q1, q2, q3, q4⟩ := hspI
          obtain ⟨e1, e2, _, _, hE⟩ := hStE'.out wr hstI
          have c1 := e2.cell 0
          obtain ⟨csg, frg, hgc⟩ := hgI
          have hgl := (Array.getElem?_eq_some_iff.1 hgc).1
          have hgsp : g ≠ sp := fun e => by
            subst e
            have q1' : wr.heap[g]? = some (.cells _ _ (0, 0)) := q1
            rw [hgc] at q1'
            injection q1' with q1'
            injection q1' with _ q1' _
            cases q1'
          have hnx := nextLn_any (· = g) sp nb most (.pointer (some ⟨dp, 0, none⟩)) vb any2 l2 t A2 m2 c3 wr q1 q2 (by omega) hE hgn hgs (fun q hq => by subst hq; exact ⟨hgl, hgsp, fun h => (q4 _ h).2 rfl⟩) hrI hm2 hpos hmc hc3 hm1 hm hokI hm2b
          have hnx' := Lib.hid (callsIn_wide (n := n - 1).2 hnx)
          have q1' := Lib.hid q1
          have q2' := Lib.hid q2
          have q3' := Lib.hid q3
          have q4' := Lib.hid q4
          have hgc' := Lib.hid hgc
          have hrunI' := Lib.hid hrunI
          have hjI' := Lib.hid hjI
          have hstI' := Lib.hid hstI
          have hm2' := Lib.hid hm2
          clear hnx q1 q2 q3 q4 e1 e2 hE hgc hrunI hjI hstI hrI hm2 hokI
          gi_wp2_with fail
          refine hnx'.out.mono ?_
          rintro e w3 ⟨vb3, l3, p1, p2, p3, p4, p5, hcase⟩
          have hT3 : Turn W.heap.size (fun k => k = sp ∨ k = dp ∨ ob = some k) wr w3 := turn_next p5 q1'.out q2'.out (.inl (.inl rfl)) (fun q hq => (q4'.out q hq).1.imp (fun h => .inr (.inr h)) id)
          have hj3 := hJ'.out _ _ _ hjI'.out hT3
          have hst3 := hStT'.out _ _ hT3 hstI'.out
          have hsz3 := p5.size
          have hd3 : Dec w3 dp ws2 := q3'.out.kept (p5.block dp q3'.out.lt (fun h => by
            obtain ⟨_, hd⟩ := q3'.out.typed
            rcases h with h | h
            · exact Has.apart hd q1'.out (by decide) h
            · obtain ⟨_, _, hh⟩ := q2'.out.own _ h
              exact Has.apart hd hh (by decide) rfl))
          have hg3 : w3.heap[g]? = some (.cells csg 5 frg) := (p5.block g hgl (fun h => h.elim hgsp (fun h => (q4'.out _ h).2 rfl))).trans hgc'.out
          have hsp3 : SpW w3 nb sp dp most W.heap.size ob (· = g) ⟨ws2, any2, l3⟩ := ⟨vb3, p1, p2, hd3, fun q hq => by
            rcases p3 with h | h | ⟨q0, h, hq0⟩
            · rw [h] at hq; cases hq
            · exact q4'.out q (h.symm.trans hq)
            · rw [h] at hq
              obtain rfl := Option.some.inj hq
              exact ⟨.inr (by omega), by omega⟩⟩
          have hsp3' := Lib.hid hsp3
          have hg3' := Lib.hid hg3
          have hst3' := Lib.hid hst3
          have hj3' := Lib.hid hj3
          clear hT3 hj3 hst3 hd3 hg3 hsp3 p1 p2 p3 p5 hnx' q1' q2' q3' q4' hgc' hjI' hstI' c1
          rcases hcase with ⟨hr1, rfl⟩ | ⟨y, b, rest, A3, m3, c4, hr1, hm3, hlt3, hmc3, hc4, rfl, hrd3⟩
          · have hfin : runC most s (xs.take (k + 1)) = (em, ⟨ws2, any2, l3⟩) := by rw [hrunI'.out, hr1]; simp
            have hfin' := Lib.hid hfin
            have p4' := Lib.hid p4
            clear hr1 hfin hrunI' p4
            gi_wp2
            have hsp4 : SpW (w3.alloc (.cells #[.string ⟨#[]⟩, .bool false] 92)) nb sp dp most W.heap.size ob (fun _ => False) ⟨ws2, any2, l3⟩ := by
              obtain ⟨vb4, r1, r2, r3, r4⟩ := hsp3'.out.below ((Below.refl _ _).alloc (Nat.le_refl _) (.cells #[.string ⟨#[]⟩, .bool false] 92))
              exact ⟨vb4, r1, r2, r3, fun q hq => ⟨(r4 q hq).1, fun h => h⟩⟩
            exact ⟨⟨k + 1, em, _, by go_num, by omega, rfl, hfin'.out, hsp4, hJ'.out _ _ _ hj3'.out (Turn.alloc _ _ _ _), hStT'.out _ _ (Turn.alloc _ _ _ _) hst3'.out, by simp; omega⟩, by simp [intOf]; omega⟩
          · have hem : runC most s (xs.take (k + 1)) = ((em ++ [(y, b)]) ++ (runL most l3 rest).1, ⟨ws2, any2, (runL most l3 rest).2⟩) := by rw [hrunI'.out, hr1]; simp
            have hlen2 : em.length < (runC most s xs).1.length := by
              obtain ⟨r, hr⟩ := runC_le most s xs (k + 1)
              rw [hr, hem]
              simp
            have hW3 : Turn W.heap.size (fun k => k = sp ∨ k = dp ∨ ob = some k) w3 (w3.alloc (.cells #[.string ⟨y.toArray⟩, .bool b] 92)) := Turn.alloc _ _ _ _
            obtain ⟨fn, tmps, assign, body, hy, hR⟩ := hY'.out (numL 0 em) (em.length, y, b) _ (hJ'.out _ _ _ hj3'.out hW3) (by rw [numL_length]; exact hlen2)
            have hy' : (Instr.yield l #[.int .i64 (em.length : Int), .agg #[.string ⟨y.toArray⟩, .bool b]]).run Tryz.prog (w3.alloc (.cells #[.string ⟨y.toArray⟩, .bool b] 92)) = .ok (Next.round l fn tmps assign body) (w3.alloc (.cells #[.string ⟨y.toArray⟩, .bool b] 92)) := hy
            have hR2 := Lib.hid (hR.mono (R' := fun e W' => ∃ b2, e = .returned (.bool b2) ∧ YPost J Jx (KeepL n0 Wr) (numL 0 em ++ [(em.length, y, b)]) (w3.alloc (.cells #[.string ⟨y.toArray⟩, .bool b] 92)) b2 W') (by
              rintro e W' (⟨rfl, h1, h2⟩ | ⟨rfl, h1⟩)
              · exact ⟨true, rfl, h1, h2⟩
              · exact ⟨false, rfl, h1⟩))
            have hnum : numL 0 em ++ [(em.length, y, b)] = numL 0 (em ++ [(y, b)]) := by rw [numL_append, Nat.zero_add]; rfl
            have hnum' := Lib.hid hnum
            have hem' := Lib.hid hem
            have p4' := Lib.hid p4
            have hm3' := Lib.hid hm3
            have hrd3' := Lib.hid hrd3
            have hst4 := Lib.hid (hStT'.out _ _ hW3 hst3'.out)
            clear hW3
            have hemb : em.length ≤ 1099511627776 := by omega
            clear hy hR hr1 hnum hem p4 hm3 hrd3 hrunI' hlen2 hst3' hj3'
            obtain ⟨w4, hw4⟩ : ∃ w4, w3.alloc (.cells #[.string ⟨y.toArray⟩, .bool b] 92) = w4 := ⟨_, rfl⟩
            have hw4' := Lib.hid hw4
            rw [hw4] at hst4
            have hb34 : Below w3.heap.size w3 w4 := by rw [← hw4]; exact (Below.refl _ _).alloc (Nat.le_refl _) _
            have hz4 : w3.heap.size ≤ w4.heap.size := hb34.size
            have hsp4 := Lib.hid (hsp3'.out.below hb34)
            have hg4 := Lib.hid ((hb34.block g (Array.getElem?_eq_some_iff.1 hg3'.out).1).trans hg3'.out)
            have hrd4 := Lib.hid (hrd3'.out.kept (fun q (hq : q = g) => hb34.block q (by subst hq; exact (Array.getElem?_eq_some_iff.1 hg3'.out).1)))
            clear hsp3' hg3' hrd3' hb34 hw4
            gi_wp2
            rw [hw4'.out]
            rw [hw4'.out] at hR2
            refine hR2.out.mono ?_
            rintro e w5 ⟨b2, rfl, hP⟩
            cases b2
            · have hP' := Lib.hid (show Jx (numL 0 em ++ [(em.length, y, b)]) w5 from hP)
              clear hP
              gi_wp2
              rw [Exit.noGoto_normal]
              go_end0
              refine ⟨⟨_, rfl⟩, .inr ⟨_, ?_, hP'.out⟩⟩
              obtain ⟨r, hr⟩ := runC_le most s xs (k + 1)
              rw [hem'.out] at hr
              exact ⟨em ++ [(y, b)], _, hr.trans (List.append_assoc _ _ _), hnum'.out⟩
            · have hP' := Lib.hid (show J (numL 0 em ++ [(em.length, y, b)]) w5 ∧ KeepL n0 Wr w4 w5 from hP)
              clear hP
              have hK5 := hP'.out.2
              have hsp5 := hsp4.out.keep hK5 hsW hdW (fun q hq => by have := hWr'.out q hq; omega) hoW'.out
              have hg5 := hK5.high _ _ _ _ hg4.out (by decide) (fun h => by have := hWr'.out _ h; omega)
              have hrd5 := hrd4.out.kept (W' := w5) (fun q (hq : q = g) => by subst hq; exact hg5.trans hg4.out.symm)
              have hst5 := hStK'.out _ _ hK5 hst4.out
              have hsz5 := hK5.size
              have hj5 := hP'.out.1
              rw [hnum'.out] at hj5
              have hsp5' := Lib.hid hsp5
              have hg5' := Lib.hid hg5
              have hrd5' := Lib.hid hrd5
              have hst5' := Lib.hid hst5
              have hj5' := Lib.hid hj5
              clear hK5 hsp5 hg5 hrd5 hst5 hj5 hP' hsp4 hg4 hrd4 hst4
              have hlen5 : (em ++ [(y, b)]).length = em.length + 1 := by simp
              have hlen5' := Lib.hid hlen5
              have hw4x := hw4'.out
              clear hw4x hlen5
              gi_wp2
              exact ⟨⟨em ++ [(y, b)], l3, rest, A3, m3, c4, by rw [hlen5'.out]; go_num, rfl, hm3'.out, by have := hm2'.out; omega, hmc3, hc4, hem'.out, hsp5'.out, p4'.out, hrd5'.out, ⟨_, _, hg5'.out⟩, hj5'.out, hst5'.out, by omega⟩, by have := hm2'.out; simp [lenV]; omega⟩
        · obtain rfl : t = [] := List.eq_nil_of_length_eq_zero (by omega)
          have hmi : ¬ (0 : Int) < (m2 : Int) := by omega
          clear hm2 hpos
          have hsp4 : SpW wr nb sp dp most W.heap.size ob (fun _ => False) ⟨ws2, any2, l2⟩ := by
            obtain ⟨vb4, r1, r2, r3, r4⟩ := hspI
            exact ⟨vb4, r1, r2, r3, fun q hq => ⟨(r4 q hq).1, fun h => h⟩⟩
          have hfin : runC most s (xs.take (k + 1)) = (em, ⟨ws2, any2, l2⟩) := by rw [hrunI]; simp [runL]
          have hfin' := Lib.hid hfin
          have hsp4' := Lib.hid hsp4
          have hj' := Lib.hid hjI
          have hst' := Lib.hid hstI
          clear hrunI hspI hokI hrI hgI hjI hstI hfin hsp4
          gi_wp2
          exact ⟨⟨k + 1, em, _, by go_num, by omega, rfl, hfin'.out, hsp4'.out, hj'.out, hst'.out, hszI⟩, by simp [intOf]; omega⟩
    · obtain rfl : k = xn := by omega
      have hrun' := Lib.hid hrun
      have hsp' := Lib.hid hsp
      have hj' := Lib.hid hj
      clear hrun hsp hj hst
      gi_wp2
      rw [Exit.noGoto_normal]
      go_end0
      have h := hrun'.out
      rw [List.take_of_length_le (by have := hxn'.out; omega)] at h
      rw [h]
      exact ⟨⟨_, rfl⟩, .inl ⟨_, rfl, hj'.out, hsp'.out⟩⟩
end Go.Proofs.YtlcfpnegpihicaaGreatDoor

namespace Go.Proofs.YtlcfpnegpihicaaGreatDoor
open Go.RowKit Go.Shelf

/-! ## Bytes in pieces; the iterator of lines -/
theorem come_any (p : Option Addr) (PA : Option Addr) (m pc : Nat) (w : World) : Calls Tryz.prog 81 #[.pointer p, .slice PA m pc] w fun e w' =>
    e = .returned (.func (.func 100) #[] #[.pointer (some ⟨w.heap.size + 1, 0, none⟩), .pointer (some ⟨w.heap.size, 0, none⟩)]) ∧ w' = (w.alloc (.cells #[.pointer p] 64)).alloc (.cells #[.slice PA m pc] 76) := by
  go_enter Tryz.func81, Tryz.ntmps81
  go_wp2
  go_ret
  exact ⟨rfl, rfl⟩
def pcs (b : List UInt8) : List (List UInt8) := if b = [] then [] else [b]
theorem runC_pcs {most : Nat} {s : CSt} (h : s.ok most) (x : List UInt8) : runC most s (pcs x) = stepC most s x := by
  unfold pcs
  split
  · rename_i hx
    rw [hx, stepC_nil h]; rfl
  · simp [runC]
theorem infoPc : (Tryz.prog.info? 22).map (fun i => (i.zero, i.size, i.bytes)) = some (some (.slice none 0 0), 1, 24) := by kernel_rfl
/-- One piece put to none. -/
theorem wpList_append_piece {w : World} {ops : Array Oper} {rest : List Oper} {o : Oper} {a : Act} {Q : Exit → Act → World → Prop} (hgd : o.guard = none) (s x : Operand) (ho : o.op = .call { callee := .builtin .append, args := #[s, x], argTypes := #[76, 76] }) (hsv : a.eval s = .slice none 0 0)
    (k : Nat) (A : Option Addr) (n c : Nat) (hxv : a.eval x = .slice (some ⟨k, 0, none⟩) 1 1) (hx : Has w k 22 #[.slice A n c])
    (h : ∀ (g c2 : Nat) (cs : Array Value) w', w.heap.size ≤ g → Has w' g 22 cs → cs[0]? = some (.slice A n c) → Below w.heap.size w w' → wpList Tryz.prog ops Q rest (a.put o.dst (.slice (some ⟨g, 0, none⟩) 1 c2)) w') : wpList Tryz.prog ops Q (o :: rest) a w := by
  obtain ⟨i, hi, hz, hz1, hz2⟩ := info_parts infoPc
  refine wpList_append_own w hgd s x 76 ho w.heap.size 22 i _ 1 24 Tryz.underlying76 hi hz hz1 hz2 rfl (by decide) (.slice none 0 0) 0 [] hsv ⟨rfl, .inl ⟨rfl, rfl⟩⟩ ⟨k, 0, none⟩ 1 1 [.slice A n c] hxv rfl (fun j u hu => ?_) (fun u hu => by obtain rfl := List.mem_singleton.1 hu; rfl) (by simp [maxLen]) (by omega) (Nat.le_refl _) (fun v' w' h1 h2 h3 => ?_)
  · rw [add_zero_, Nat.zero_add, hx.cell]
    simpa using hu
  · rcases h1.2 with ⟨rfl, h0⟩ | ⟨g, cap, cur, rfl, hb, hg, hnc, hcm, hcs, htk⟩
    · cases h0
    · refine h g cap cur w' hb hg ?_ ⟨h2.os, h2.tape, h2.output, h2.size, fun k hk => h2.block k hk (by simp [Value.ownBlock])⟩
      have := congrArg (fun l => l[0]?) htk
      simpa using this
def CutOf (A : Option Addr) (b : List UInt8) (w : World) (e : Ending) (w' : World) : Prop :=
  ∃ PA pc, e = .returned (.slice PA (pcs b).length pc) ∧ Below w.heap.size w w' ∧ ∀ k x, (pcs b)[k]? = some x → x = b ∧ ∃ g cs c, PA = some ⟨g, 0, none⟩ ∧ w.heap.size ≤ g ∧ Has w' g 22 cs ∧ k = 0 ∧ cs[0]? = some (.slice A b.length c)
set_option maxRecDepth 100000 in
set_option maxHeartbeats 1000000 in
theorem cut_any (A : Option Addr) (b : List UInt8) (n c : Nat) (w : World) (hn : n = b.length) (hc : n ≤ c) (__hcm : c ≤ 9223372036854775807) (hl : n ≤ 4096) (hA : 0 < n → ∃ ad, A = some ad) :
    Calls Tryz.prog 82 #[.slice A n c] w (CutOf A b w) := by
  have hn' := Lib.hid hn
  have hA' := Lib.hid hA
  clear hn hA
  go_enter Tryz.func82, Tryz.ntmps82
  go_wp2
  go_loopw [0, 3] (fun x0 x3 wr => (x0 = .slice A n c ∧ x3 = .slice none 0 0 ∧ w = wr) ∨ (0 < n ∧ ∃ A' c' g c2 cs, x0 = .slice A' 0 c' ∧ x3 = .slice (some ⟨g, 0, none⟩) 1 c2 ∧ w.heap.size ≤ g ∧ Has wr g 22 cs ∧ cs[0]? = some (.slice A n n) ∧ Below w.heap.size w wr)) (fun x0 _ _ => lenV x0)
  case atStart => exact .inl ⟨rfl, rfl, rfl⟩
  case round =>
    rcases hrel with ⟨rfl, rfl, rfl⟩ | ⟨hn0, A', c', g, c2, cs, rfl, rfl, hg, hh, hcs, hb⟩
    · by_cases h0 : 0 < n
      · obtain ⟨ad, rfl⟩ := hA'.out h0
        have hi0 : (0 : Int) < (n : Int) := by omega
        have hi1 : (n : Int) ≤ 4096 := by omega
        have hi2 : (n : Int) ≤ (c : Int) := by omega
        have hmin : min (n : Int) 4096 = (n : Int) := by omega
        go_wp2_with (first
          | (at_builtin; refine wpList_append_piece rfl _ _ rfl rfl _ (some ad) n n rfl (Has.new _ _ _) ?_; intro g2 c2 cs2 w2 hg2 hh2 hcs2 hb2; have hg2' := Lib.hid hg2; have hh2' := Lib.hid hh2; have hcs2' := Lib.hid hcs2; have hb2' := Lib.hid hb2; clear hg2 hh2 hcs2 hb2)
          | fail)
        have hg2 := hg2'.out
        rw [World.size_alloc] at hg2
        refine ⟨.inr ⟨h0, _, _, g2, c2, cs2, rfl, rfl, by omega, hh2'.out, hcs2'.out, ?_⟩, by simp [lenV]; omega⟩
        exact ((Below.refl w.heap.size w).alloc (Nat.le_refl _) _).trans (hb2'.out.mono (by simp))
      · have hni : ¬ (0 : Int) < (n : Int) := by omega
        have hb0 : b = [] := List.eq_nil_of_length_eq_zero (by have := hn'.out; omega)
        have hb0' := Lib.hid hb0
        clear hb0
        go_wp2
        go_ret
        exact ⟨none, 0, by rw [hb0'.out]; rfl, Below.refl _ _, fun k x hx => by rw [hb0'.out] at hx; simp [pcs] at hx⟩
    · have hb' := Lib.hid hb
      have hh' := Lib.hid hh
      have hcs' := Lib.hid hcs
      have hni : ¬ (0 : Int) < ((0 : Nat) : Int) := by omega
      have hb0 : b ≠ [] := fun e => by have := hn'.out; rw [e] at this; simp at this; omega
      have hb0' := Lib.hid hb0
      clear hb hh hcs hb0
      go_wp2
      go_ret
      refine ⟨some ⟨g, 0, none⟩, c2, by unfold pcs; rw [if_neg hb0'.out]; rfl, hb'.out, fun k x hx => ?_⟩
      unfold pcs at hx
      rw [if_neg hb0'.out] at hx
      cases k with
      | zero =>
        obtain rfl : b = x := by simpa using hx
        exact ⟨rfl, g, cs, n, rfl, hg, hh'.out, rfl, by rw [← hn'.out]; exact hcs'.out⟩
      | succ k => simp at hx
/-- What the pieces of bytes are, told of at a world w: none of their blocks turns. -/
def ChL (sp dp : Nat) (ob : Option Nat) (k : Nat) : Prop := k = sp ∨ k = dp ∨ ob = some k
theorem come1_stops (n : Nat) (hn : 1 ≤ n) (bP bS sp dp most n0 nb : Nat) (Wr : Nat → Prop) (ob : Option Nat) (PA : Option Addr) (pc : Nat) (xs : List (List UInt8)) (s : CSt) (w : World)
    (hn0 : n0 ≤ w.heap.size) (hWr : ∀ k, Wr k → k < n0) (hsW : ¬ Wr sp) (hdW : ¬ Wr dp) (hoW : ∀ k, ob = some k → ¬ Wr k) (hPW : ¬ Wr bP) (hSW : ¬ Wr bS) (hm1 : 1 ≤ most) (hm : most ≤ 65536) (hnb : nb ≤ w.heap.size)
    (hxl : ∀ x ∈ xs, x.length ≤ 300000) (hxs : xs.length ≤ 1000000) (hN : (runC most s xs).1.length ≤ 1099511627776) (hok : s.ok most)
    (hT : TabU w) (hTn : 6 < n0) (hTW : ¬ Wr 6) (hTC : ¬ ChL sp dp ob 6)
    (hE : Ends w) (hEn : 2 < n0) (hEW : ¬ Wr 2) (hEC : ¬ ChL sp dp ob 2) (hEb : 2 < nb)
    (hbP : Has w bP 76 #[.slice PA xs.length pc]) (hbS : Has w bS 64 #[.pointer (some ⟨sp, 0, none⟩)])
    (hPc : ∀ (k : Nat) (x : List UInt8), xs[k]? = some x → ∃ (g : Nat) (cs : Array Value) (A : Option Addr) (c : Nat), PA = some ⟨g, 0, none⟩ ∧ Has w g 22 cs ∧ ¬ Wr g ∧ cs[k]? = some (Value.slice A x.length c) ∧ Rd w (fun q => q < n0 ∧ ¬ Wr q ∧ ¬ ChL sp dp ob q) A x)
    (hSp : ∃ vb, Has w sp 168 #[.pointer (some ⟨dp, 0, none⟩), .bool s.any, vb, .bool s.l.long, .int .i64 (most : Int), .bool s.l.half] ∧ Bs w nb vb s.l.bytes ∧ Dec w dp s.ws ∧ vb.ownBlock = ob) :
    SeqTurn n Tryz.prog 100 #[.pointer (some ⟨bP, 0, none⟩), .pointer (some ⟨bS, 0, none⟩)] encLn (KeepL n0 Wr) (ChL sp dp ob) (fun ys => ys = numL 0 (runC most s xs).1) (fun pre => ∃ a b, (runC most s xs).1 = a ++ b ∧ pre = numL 0 a)
      (fun V => SpW V nb sp dp most w.heap.size ob (fun _ => False) (runC most s xs).2) (runC most s xs).1.length w := by
  intro l J Jx W hW hJ _ hY h0
  have hWs := hW.size
  refine (come1_in n hn l bP bS sp dp most n0 nb Wr ob PA pc xs
    (fun X => (∀ k, k < n0 → ¬ Wr k → ¬ ChL sp dp ob k → X.heap[k]? = w.heap[k]?) ∧ w.heap.size ≤ X.heap.size ∧ Has X bP 76 #[.slice PA xs.length pc] ∧ Has X bS 64 #[.pointer (some ⟨sp, 0, none⟩)] ∧
      (∀ (k : Nat) (x : List UInt8), xs[k]? = some x → ∃ (g : Nat) (cs : Array Value) (A : Option Addr) (c : Nat), PA = some ⟨g, 0, none⟩ ∧ Has X g 22 cs ∧ ¬ Wr g ∧ cs[k]? = some (Value.slice A x.length c) ∧ Rd w (fun q => q < n0 ∧ ¬ Wr q ∧ ¬ ChL sp dp ob q) A x)) W
    hWr hsW hdW hoW hEb (fun e => hEC (.inl e)) (by omega) hm1 hm hxl hxs ?_ ?_ ?_ s hok hN J Jx hJ ?_ (by omega) ?_ ?_ h0).mono ?_
  · rintro X ⟨h1, h2, h3, h4, h5⟩
    refine ⟨h3, h4, fun k x hx => ?_, hT.kept (h1 _ hTn hTW hTC), hE.kept (h1 _ hEn hEW hEC)⟩
    obtain ⟨g, cs, A, c, hPA, hg, _, hc, hr⟩ := h5 k x hx
    refine ⟨_, A, c, hPA, ?_, (hr.kept (fun q hq => h1 q hq.1 hq.2.1 hq.2.2)).mono (fun q hq => by omega)⟩
    rw [add_zero_, Nat.zero_add, hg.cell]
    exact hc
  · rintro X Y hTu ⟨h1, h2, h3, h4, h5⟩
    refine ⟨fun k hk hw hc => (hTu.low k (by omega) (by omega) hc).trans (h1 k hk hw hc), by have := hTu.size; omega, hTu.has h3 (by decide), hTu.has h4 (by decide), fun k x hx => ?_⟩
    obtain ⟨g, cs, A, c, hPA, hg, hgw, hc, hr⟩ := h5 k x hx
    exact ⟨g, cs, A, c, hPA, hTu.has hg (by decide), hgw, hc, hr⟩
  · rintro X Y hK ⟨h1, h2, h3, h4, h5⟩
    refine ⟨fun k hk hw hc => (hK.low k (by omega) (by omega) hw).trans (h1 k hk hw hc), by have := hK.size; omega, hK.has (by decide) hPW h3, hK.has (by decide) hSW h4, fun k x hx => ?_⟩
    obtain ⟨g, cs, A, c, hPA, hg, hgw, hc, hr⟩ := h5 k x hx
    exact ⟨g, cs, A, c, hPA, hK.has (by decide) hgw hg, hgw, hc, hr⟩
  · intro pre y V hj hl
    obtain ⟨fn, tmps, assign, body, hy, hR⟩ := hY pre y V hj hl
    exact ⟨fn, tmps, assign, body, hy, hR.mono (fun e V' h => h.2)⟩
  · refine ⟨fun k hk _ _ => hW.block k (by omega), hWs, hbP.below hW hbP.lt, hbS.below hW hbS.lt, fun k x hx => ?_⟩
    obtain ⟨g, cs, A, c, hPA, hg, hgw, hc, hr⟩ := hPc k x hx
    exact ⟨g, cs, A, c, hPA, hg.below hW hg.lt, hgw, hc, hr⟩
  · obtain ⟨vb, h1, h2, h3, h4⟩ := hSp
    exact ⟨vb, h1.below hW h1.lt, h2.below hW, h3.below hW, fun k hk => ⟨.inl (h4.symm.trans hk), fun h => h⟩⟩
  · rintro e V ⟨hv, (⟨ys, h1, h2, vb, h3, h4, h5, h6⟩ | ⟨pre, h1, h2⟩)⟩
    · exact ⟨hv, .inl ⟨ys, h1, h2, vb, h3, h4, h5, fun k hk => ⟨(h6 k hk).1.imp id (fun h => by omega), fun h => h⟩⟩⟩
    · exact ⟨hv, .inr ⟨pre, h1, h2⟩⟩
end Go.Proofs.YtlcfpnegpihicaaGreatDoor

namespace Go.Proofs.YtlcfpnegpihicaaGreatDoor
open Go.RowKit Go.Shelf

/-! ## New, Waits -/
/-- A splitter in memory, and which row of bytes is its own. -/
def SpO (W : World) (nb sp dp most : Nat) (ob : Option Nat) (s : CSt) : Prop :=
  ∃ vb, Has W sp 168 #[.pointer (some ⟨dp, 0, none⟩), .bool s.any, vb, .bool s.l.long, .int .i64 (most : Int), .bool s.l.half] ∧ Bs W nb vb s.l.bytes ∧ Dec W dp s.ws ∧ vb.ownBlock = ob
theorem SpO.below {W W' : World} {nb sp dp most : Nat} {ob : Option Nat} {s : CSt} (h : SpO W nb sp dp most ob s) (hb : Below W.heap.size W W') : SpO W' nb sp dp most ob s := by
  obtain ⟨vb, h1, h2, h3, h4⟩ := h
  exact ⟨vb, h1.below hb h1.lt, h2.below hb, h3.below hb, h4⟩
theorem SpO.chg {W W' : World} {S : Nat → Prop} {nb sp dp most : Nat} {ob : Option Nat} {s : CSt} (h : SpO W nb sp dp most ob s) (hc : Chg S W W') (h1 : ¬ S sp) (h2 : ¬ S dp) (h3 : ∀ k, ob = some k → ¬ S k) : SpO W' nb sp dp most ob s := by
  obtain ⟨vb, a1, a2, a3, a4⟩ := h
  exact ⟨vb, hc.has h1 a1, a2.kept (fun g hg => hc.block g (a2.own g hg).2.choose_spec.lt (h3 g (a4.symm.trans hg))), a3.chg hc h2, a4⟩
theorem SpO.lt {W : World} {nb sp dp most : Nat} {ob : Option Nat} {s : CSt} (h : SpO W nb sp dp most ob s) : sp < W.heap.size ∧ dp < W.heap.size ∧ sp ≠ dp ∧ ∀ k, ob = some k → k < W.heap.size ∧ k ≠ sp ∧ k ≠ dp ∧ nb ≤ k := by
  obtain ⟨vb, a1, a2, a3, a4⟩ := h
  obtain ⟨_, hd⟩ := a3.typed
  refine ⟨a1.lt, a3.lt, a1.apart hd (by decide), fun k hk => ?_⟩
  obtain ⟨h1, _, hh⟩ := a2.own k (a4.trans hk)
  exact ⟨hh.lt, hh.apart a1 (by decide), hh.apart hd (by decide), h1⟩
theorem begun_any (w : World) : Calls Tryz.prog 109 #[] w fun e w' => e = .returned (.agg #[.pointer (some ⟨w.heap.size + 1, 0, none⟩), .bool false]) ∧ Dec w' (w.heap.size + 1) [] ∧ Below w.heap.size w w' ∧ w'.heap.size = w.heap.size + 2 := by
  have k0 := (Has.new w 163 #[.pointer none, .bool false]).alloc (.cells #[.int .u8 0, .int .u8 0, .int .u8 0, .int .i64 0, .bool true] 208)
  have k0' := Lib.hid k0
  have g0 := k0.cell 0
  have g1 := k0.cell 1
  have q0 := k0.free 0
  have q1 := k0.free 1
  have kd := Lib.hid (dec_new (w.alloc (.cells #[.pointer (some ⟨w.heap.size + 1, 0, none⟩), .bool false] 163)))
  have k1 := (Has.new w 163 #[.pointer (some ⟨w.heap.size + 1, 0, none⟩), .bool false]).alloc (.cells #[.int .u8 0, .int .u8 0, .int .u8 0, .int .i64 0, .bool true] 208)
  have k1' := Lib.hid k1
  clear k0 k0' k1
  go_enter Tryz.func109, Tryz.ntmps109
  go_wp2_with (go_at_call 131; (with_reducible refine Calls.mono (new_any _) ?_); rintro e w1 ⟨rfl, rfl⟩)
  have x0 := k1'.out.cell 0
  have x1 := k1'.out.cell 1
  have kd2 := kd.out
  rw [World.size_alloc] at kd2
  refine bodyPost_ret (v := .agg #[.pointer (some ⟨w.heap.size + 1, 0, none⟩), .bool false]) (by simp [results, Tryz.results109, go_sem, x0, x1]) rfl ⟨rfl, ?_, ?_, by simp⟩
  · exact kd2
  · exact ((Below.refl w.heap.size w).alloc (Nat.le_refl _) _).alloc (by simp) _
def MadeL (nb most : Nat) (w : World) (sp : Nat) (w' : World) : Prop := ∃ dp, w.heap.size ≤ sp ∧ w.heap.size ≤ dp ∧ SpO w' nb sp dp most none init0 ∧ Below w.heap.size w w'
theorem fresh_any (nb most : Nat) (w : World) : Calls Tryz.prog 85 #[.int .i64 (most : Int)] w fun e w' => ∃ sp, e = .returned (.pointer (some ⟨sp, 0, none⟩)) ∧ MadeL nb most w sp w' := by
  go_enter Tryz.func85, Tryz.ntmps85
  go_wp2_with (go_at_call 109; (with_reducible refine Calls.mono (begun_any _) ?_); rintro e w1 ⟨rfl, hd, hb, hz⟩; have hd' := Lib.hid hd; have hb' := Lib.hid hb; have hz' := Lib.hid hz; clear hd hb hz)
  go_ret
  have hz := hz'.out
  exact ⟨_, rfl, w.heap.size + 1, by omega, by omega, ⟨.slice none 0 0, Has.new w1 _ _, bs_nil _ _, hd'.out.below ((Below.refl _ _).alloc (Nat.le_refl _) _), rfl⟩, hb'.out.alloc (by omega) _⟩
def NewOf (nb most : Nat) (w : World) (e : Ending) (w' : World) : Prop := ∃ sp, e = .returned (.tuple #[.pointer (some ⟨sp, 0, none⟩), .int .i64 0]) ∧ MadeL nb most w sp w'
theorem newL_yes (nb most : Nat) (w : World) (h1 : 1 ≤ most) (h2 : most ≤ 65536) : Calls Tryz.prog 64 #[.int .i64 (most : Int)] w (NewOf nb most w) := by
  have hi1 : ¬ (most : Int) < 1 := by omega
  have hi2 : ¬ (65536 : Int) < (most : Int) := by omega
  go_enter Tryz.func64, Tryz.ntmps64
  go_wp2
  refine wp_scope_on 0 rfl ?_
  go_wp2_with fail
  refine (fresh_any nb most w).mono ?_
  rintro e w1 ⟨sp, rfl, hM⟩
  have hM' := Lib.hid hM
  clear hM
  go_wp2
  rw [jump_ret]
  go_ret2
  exact ⟨sp, rfl, hM'.out⟩
end Go.Proofs.YtlcfpnegpihicaaGreatDoor

namespace Go.Proofs.YtlcfpnegpihicaaGreatDoor
open Go.RowKit Go.Shelf
attribute [local go_sem] Oper.semAt_some

/-! ## none, LastId, Waits, split, fresh -/
/-- None at all, or one that New did not make. -/
def NoP (w : World) (v : Option Addr) : Prop := v = none ∨ ∃ s, v = some ⟨s, 0, none⟩ ∧ w.cell? ⟨s, 5, none⟩ = some (.int .i64 0)
theorem pNone_no (p l : Nat) (w : World) (h : w.cell? ⟨p, 5, none⟩ = some (.int .i64 (l : Int))) (h1 : 1 ≤ l) : Calls Tryz.prog 29 #[.pointer (some ⟨p, 0, none⟩)] w fun e w' => e = .returned (.bool false) ∧ w = w' := by
  have hi : (1 : Int) ≤ (l : Int) := by omega
  have hz : ¬ (l : Int) = 0 := by omega
  go_enter Tryz.func29, Tryz.ntmps29
  go_wp2
  go_ret
  exact ⟨ret_boolU (by simp; omega), rfl⟩
theorem pNone_yes (v : Option Addr) (w : World) (h : NoP w v) : Calls Tryz.prog 29 #[.pointer v] w fun e w' => e = .returned (.bool true) ∧ w = w' := by
  rcases h with rfl | ⟨s, rfl, h⟩
  · go_enter Tryz.func29, Tryz.ntmps29
    go_wp2
    go_ret
    exact ⟨rfl, rfl⟩
  · go_enter Tryz.func29, Tryz.ntmps29
    go_wp2
    go_ret
    exact ⟨rfl, rfl⟩
theorem lastId_any (p sp l m : Nat) (dv : Value) (s : PrS) (w : World) (h : Has w p 71 (prC sp dv s l m)) (h1 : 1 ≤ l) : Calls Tryz.prog 18 #[.pointer (some ⟨p, 0, none⟩)] w fun e w' => e = .returned (.string ⟨s.last.toArray⟩) ∧ w = w' := by
  have hnone := Lib.hid (pNone_no p l w (h.cell 5) h1)
  have c4 := h.cell 4
  unfold prC at c4
  clear h
  go_enter Tryz.func18, Tryz.ntmps18
  go_wp2_with ((go_at_call 29; (with_reducible refine Calls.mono hnone.out ?_); rintro e w1 ⟨rfl, rfl⟩))
  go_ret
  exact ⟨rfl, rfl⟩
theorem lastId_none (v : Option Addr) (w : World) (h : NoP w v) : Calls Tryz.prog 18 #[.pointer v] w fun e w' => e = .returned (.string ⟨#[]⟩) ∧ w = w' := by
  have hnone := Lib.hid (pNone_yes v w h)
  clear h
  go_enter Tryz.func18, Tryz.ntmps18
  go_wp2_with ((go_at_call 29; (with_reducible refine Calls.mono hnone.out ?_); rintro e w1 ⟨rfl, rfl⟩))
  go_ret
  exact ⟨rfl, rfl⟩
theorem waitsPs_none (v : Option Addr) (w : World) (h : NoP w v) : Calls Tryz.prog 19 #[.pointer v] w fun e w' => e = .returned (.int .i64 0) ∧ w = w' := by
  have hnone := Lib.hid (pNone_yes v w h)
  clear h
  go_enter Tryz.func19, Tryz.ntmps19
  go_wp2_with ((go_at_call 29; (with_reducible refine Calls.mono hnone.out ?_); rintro e w1 ⟨rfl, rfl⟩))
  go_ret
  exact ⟨rfl, rfl⟩
set_option maxRecDepth 100000 in
theorem waitsPs_any (nb p sp l m : Nat) (dv : Value) (s : PrS) (w : World) (h : Has w p 71 (prC sp dv s l m)) (hd : Bs w nb dv s.data) (h1 : 1 ≤ l) (hk : s.kind.length ≤ 1000000) (hdl : s.data.length ≤ 1000000) : Calls Tryz.prog 19 #[.pointer (some ⟨p, 0, none⟩)] w fun e w' => e = .returned (.int .i64 ((s.kind.length + s.data.length : Nat) : Int)) ∧ Below w.heap.size w w' := by
  have hnone := Lib.hid (pNone_no p l w (h.cell 5) h1)
  obtain ⟨A, c, rfl, _⟩ := hd.shape
  have c1 := h.cell 1
  have c2 := h.cell 2
  unfold prC at c1 c2
  have hs1 : IntKind.i64.wrap ((s.kind.length : Int) + (s.data.length : Int)) = (s.kind.length : Int) + (s.data.length : Int) := IntWalk.i64_in _ ⟨by omega, by omega⟩
  clear h hd
  go_enter Tryz.func19, Tryz.ntmps19
  go_upto_region 3 with ((go_at_call 29; (with_reducible refine Calls.mono hnone.out ?_); rintro e w1 ⟨rfl, rfl⟩))
  go_quiet (fail)
  go_wp2
  go_ret
  exact ⟨by rw [Int.natCast_add]; rfl, below_draws (Below.refl _ _) _⟩
theorem split_any (nb l : Nat) (w : World) (h1 : 1 ≤ l) (h2 : l ≤ 65536) : Calls Tryz.prog 43 #[.int .i64 (l : Int)] w fun e w' => ∃ sp, e = .returned (.agg #[.pointer (some ⟨sp, 0, none⟩)]) ∧ MadeL nb l w sp w' := by
  have hb1 : Below w.heap.size w (w.alloc (.cells #[.pointer none] 66)) := (Below.refl _ _).alloc (Nat.le_refl _) _
  have kS := Has.new w 66 #[.pointer none]
  have hn := Lib.hid (newL_yes nb l (w.alloc (.cells #[.pointer none] 66)) h1 h2)
  have hb1' := Lib.hid hb1
  have kS' := Lib.hid kS
  clear hb1 kS
  go_enter Tryz.func43, Tryz.ntmps43
  go_wp2_with ((go_at_call 64; (with_reducible refine Calls.mono hn.out ?_); rintro e w2 ⟨sp, rfl, dp, ha, hb, hS, hbb⟩; have kS2 := kS'.out.below hbb kS'.out.lt; have y0 := kS2.cell 0; have z0 := kS2.free 0; have kS2' := Lib.hid kS2; have ha' := Lib.hid ha; have hb' := Lib.hid hb; have hS' := Lib.hid hS; have hbb' := Lib.hid hbb; clear kS2 ha hb hS hbb))
  have kE := kS2'.out.put 0 (.pointer (some ⟨sp, 0, none⟩))
  have x0 := kE.cell 0
  have ha := ha'.out
  have hb := hb'.out
  have hlt := hS'.out.lt
  simp only [World.size_alloc] at ha hb
  refine bodyPost_ret (v := .agg #[.pointer (some ⟨sp, 0, none⟩)]) (by simp [results, Tryz.results43, go_sem, x0]) rfl ⟨sp, rfl, dp, by omega, by omega, hS'.out.chg (S := fun k => k = w.heap.size) (chg_set (S := fun k => k = w.heap.size) (w := w2) (k := w.heap.size) (i := 0) rfl (.pointer (some ⟨sp, 0, none⟩)) _ rfl) (by omega) (by omega) (fun k h => by cases h), (hb1'.out.trans (hbb'.out.mono (by simp))).setCell (by simp) _⟩
def MadeP (nb l m : Nat) (w : World) (p : Nat) (w' : World) : Prop := ∃ sp dp, w.heap.size ≤ p ∧ w.heap.size ≤ sp ∧ w.heap.size ≤ dp ∧ Has w' p 71 (prC sp (.slice none 0 0) (prNew []) l m) ∧ SpO w' nb sp dp l none init0 ∧ Below w.heap.size w w'
set_option maxRecDepth 100000 in
theorem freshPs_any (nb l m : Nat) (w : World) (h1 : 1 ≤ l) (h2 : l ≤ 65536) : Calls Tryz.prog 27 #[.agg #[.int .i64 (l : Int), .int .i64 (m : Int)]] w fun e w' => ∃ p, e = .returned (.pointer (some ⟨p, 0, none⟩)) ∧ MadeP nb l m w p w' := by
  have hb1 : Below w.heap.size w (w.alloc (.cells #[.int .i64 (l : Int), .int .i64 (m : Int)] 69)) := (Below.refl _ _).alloc (Nat.le_refl _) _
  have kC := Has.new w 69 #[.int .i64 (l : Int), .int .i64 (m : Int)]
  have k0 := kC.cell 0
  have k1 := kC.cell 1
  have kC' := Lib.hid kC.drew
  have hb1' := Lib.hid hb1.drew
  have hsp := Lib.hid (split_any nb l ((w.alloc (.cells #[.int .i64 (l : Int), .int .i64 (m : Int)] 69)).drew) h1 h2)
  clear hb1 kC
  go_enter Tryz.func27, Tryz.ntmps27
  go_wp2_with (fail)
  go_region_held3 (fun W' => W'.cell? ⟨w.heap.size, 0, none⟩ = some (.int .i64 (l : Int)) ∧ W'.cell? ⟨w.heap.size, 1, none⟩ = some (.int .i64 (m : Int)))
    (first
    | exact ⟨(hset.out _).cell 0, (hset.out _).cell 1⟩
    | go_keep)
    (first
    | (go_at_call 43; (with_reducible refine Calls.mono hsp.out ?_); rintro e w3 ⟨sp, rfl, dp, ha, hb, hS, hbb⟩
       have kC3 := kC'.out.below hbb kC'.out.lt
       have g0 := kC3.cell 0
       have g1 := kC3.cell 1
       have hset := Lib.hid (fun o => kC3.alloc o)
       have ha' := Lib.hid ha
       have hb' := Lib.hid hb
       have hS' := Lib.hid hS
       have hbb' := Lib.hid hbb
       clear kC3 ha hb hS hbb)
    | fail)
  all_goals (
    go_wp2
    go_ret
    have hbw : Below w.heap.size w w3 := hb1'.out.trans (hbb'.out.mono hb1'.out.size)
    have ha := ha'.out
    have hb := hb'.out
    have hsz : w.heap.size < w3.heap.size := Nat.lt_of_lt_of_le kC'.out.lt hbb'.out.size
    have hsz2 : ((w.alloc (.cells #[.int .i64 (l : Int), .int .i64 (m : Int)] 69)).drew).heap.size = w.heap.size + 1 := by show (w.alloc _).heap.size = _; simp
    exact ⟨w3.heap.size, rfl, sp, dp, by omega, by omega, by omega, Has.new w3 _ _, hS'.out.below ((Below.refl _ _).alloc (Nat.le_refl _) _), hbw.alloc (by omega) _⟩)
end Go.Proofs.YtlcfpnegpihicaaGreatDoor

namespace Go.Proofs.YtlcfpnegpihicaaGreatDoor
open Go.RowKit Go.Shelf
attribute [local go_sem] Oper.semAt_some

/-! ## New -/
def GrT (W : World) : Prop := ∃ t, Has W 0 t #[.int .i64 65536, .int .i64 65536]
theorem GrT.below {W W' : World} (h : GrT W) (hb : Below W.heap.size W W') : GrT W' := by
  obtain ⟨t, h⟩ := h
  exact ⟨t, h.below hb h.lt⟩
set_option maxRecDepth 100000 in
theorem newPs_yes (nb l m : Nat) (w : World) (hG : GrT w) (h1 : 1 ≤ l) (h2 : l ≤ 65536) (h3 : 1 ≤ m) (h4 : m ≤ 65536) : Calls Tryz.prog 12 #[.int .i64 (l : Int), .int .i64 (m : Int)] w fun e w' => ∃ p, e = .returned (.tuple #[.pointer (some ⟨p, 0, none⟩), .int .i64 0]) ∧ MadeP nb l m w p w' := by
  obtain ⟨t, hg⟩ := hG
  have hb1 : Below w.heap.size w (w.alloc (.cells #[.int .i64 (l : Int), .int .i64 (m : Int)] 69)) := (Below.refl _ _).alloc (Nat.le_refl _) _
  have hg2 := hg.below hb1 hg.lt
  have g0 := hg2.cell 0
  have g1 := hg2.cell 1
  have kC := Has.new w 69 #[.int .i64 (l : Int), .int .i64 (m : Int)]
  have k0 := kC.cell 0
  have k1 := kC.cell 1
  have hfr := Lib.hid (freshPs_any nb l m (w.alloc (.cells #[.int .i64 (l : Int), .int .i64 (m : Int)] 69)) h1 h2)
  have i0 : ∀ w, (Instr.index 69 (.agg #[.int .i64 65536, .int .i64 65536]) (.int .i64 0)).run Tryz.prog w = .ok (.int .i64 65536) w := fun _ => by kernel_rfl
  have i1 : ∀ w, (Instr.index 69 (.agg #[.int .i64 65536, .int .i64 65536]) (.int .i64 1)).run Tryz.prog w = .ok (.int .i64 65536) w := fun _ => by kernel_rfl
  have hb1' := Lib.hid hb1
  have hi1 : ¬ (l : Int) < 1 := by omega
  have hi2 : ¬ (m : Int) < 1 := by omega
  have hi3 : ¬ (65536 : Int) < (l : Int) := by omega
  have hi4 : ¬ (65536 : Int) < (m : Int) := by omega
  clear hg hb1 hg2 kC
  go_enter Tryz.func12, Tryz.ntmps12
  go_wp2
  refine wp_scope_on 0 rfl ?_
  go_wp2_with fail
  go_loop [13] (fun i => ∃ k : Nat, k ≤ 2 ∧ i = .int .i64 k) (fun i => 2 - (intOf i).toNat)
  case atStart => exact ⟨0, by omega, rfl⟩
  case round =>
    obtain ⟨k, hk, rfl⟩ := hrel
    rcases (by omega : k = 0 ∨ k = 1 ∨ k = 2) with rfl | rfl | rfl
    · go_wp2_with fail
      go_round
      case rel => exact ⟨1, by omega, by go_num⟩
      case measure => simp [intOf]
    · go_wp2_with fail
      go_round
      case rel => exact ⟨2, by omega, by go_num⟩
      case measure => simp [intOf]
    · go_wp2_with ((go_at_call 27; (with_reducible refine Calls.mono hfr.out ?_); rintro e w2 ⟨p, rfl, hM⟩; have hM' := Lib.hid hM; clear hM))
      rw [jump_ret]
      go_ret2
      obtain ⟨sp, dp, a1, a2, a3, a4, a5, a6⟩ := hM'.out
      simp only [World.size_alloc] at a1 a2 a3
      exact ⟨p, rfl, sp, dp, by omega, by omega, by omega, a4, a5, hb1'.out.trans (a6.mono (by simp))⟩
set_option maxRecDepth 100000 in
theorem newPs_no (z1 z2 : Int) (w : World) (hG : GrT w) (h : (z1 < 1 ∨ 65536 < z1) ∨ (z2 < 1 ∨ 65536 < z2)) : Calls Tryz.prog 12 #[.int .i64 z1, .int .i64 z2] w fun e w' => e = .returned (.tuple #[.pointer none, .int .i64 2]) ∧ Below w.heap.size w w' := by
  obtain ⟨t, hg⟩ := hG
  have hb1 : Below w.heap.size w (w.alloc (.cells #[.int .i64 z1, .int .i64 z2] 69)) := (Below.refl _ _).alloc (Nat.le_refl _) _
  have hg2 := hg.below hb1 hg.lt
  have g0 := hg2.cell 0
  have g1 := hg2.cell 1
  have kC := Has.new w 69 #[.int .i64 z1, .int .i64 z2]
  have k0 := kC.cell 0
  have k1 := kC.cell 1
  have i0 : ∀ w, (Instr.index 69 (.agg #[.int .i64 65536, .int .i64 65536]) (.int .i64 0)).run Tryz.prog w = .ok (.int .i64 65536) w := fun _ => by kernel_rfl
  have i1 : ∀ w, (Instr.index 69 (.agg #[.int .i64 65536, .int .i64 65536]) (.int .i64 1)).run Tryz.prog w = .ok (.int .i64 65536) w := fun _ => by kernel_rfl
  have hb1' := Lib.hid hb1
  clear hg hb1 hg2 kC
  go_enter Tryz.func12, Tryz.ntmps12
  go_wp2
  refine wp_scope_on 0 rfl ?_
  go_wp2_with fail
  by_cases hz : z1 < 1 ∨ 65536 < z1
  · go_loop [13] (fun i => i = .int .i64 0) (fun i => 2 - (intOf i).toNat)
    case atStart => exact rfl
    case round =>
      obtain rfl := hrel
      by_cases hz1 : z1 < 1
      · go_wp2_with fail
        go_step3
        refine ⟨rfl, ?_⟩
        go_wp2
        rw [Exit.noGoto_ret]
        go_ret2
        exact ⟨rfl, hb1'.out⟩
      · have hz2 : 65536 < z1 := by omega
        go_wp2_with fail
        go_step3
        refine ⟨rfl, ?_⟩
        go_wp2
        rw [Exit.noGoto_ret]
        go_ret2
        exact ⟨rfl, hb1'.out⟩
  · have hy1 : ¬ z1 < 1 := by omega
    have hy2 : ¬ 65536 < z1 := by omega
    go_loop [13] (fun i => ∃ k : Nat, k ≤ 1 ∧ i = .int .i64 k) (fun i => 2 - (intOf i).toNat)
    case atStart => exact ⟨0, by omega, rfl⟩
    case round =>
      obtain ⟨k, hk, rfl⟩ := hrel
      rcases (by omega : k = 0 ∨ k = 1) with rfl | rfl
      · go_wp2_with fail
        go_round
        case rel => exact ⟨1, by omega, by go_num⟩
        case measure => simp [intOf]
      · by_cases hz1 : z2 < 1
        · go_wp2_with fail
          go_step3
          refine ⟨rfl, ?_⟩
          go_wp2
          rw [Exit.noGoto_ret]
          go_ret2
          exact ⟨rfl, hb1'.out⟩
        · have hz2 : 65536 < z2 := by omega
          go_wp2_with fail
          go_step3
          refine ⟨rfl, ?_⟩
          go_wp2
          rw [Exit.noGoto_ret]
          go_ret2
          exact ⟨rfl, hb1'.out⟩
end Go.Proofs.YtlcfpnegpihicaaGreatDoor
