import Derived.Test.YthdmmlaahjgijaaDoorLnJ
namespace Go.Proofs.YthdmmlaahjgijaaDoor
open Go.RowKit Go.Shelf
attribute [local go_sem] Oper.semAt_some
attribute [local go_sem] wide_fn wide_depth wide_round

/-! ## Pieces come: the lines that end with them, each with its number -/
def runC (most : Nat) : CSt → List (List UInt8) → List (List UInt8 × Bool) × CSt
  | s, [] => ([], s)
  | s, x :: r => ((stepC most s x).1 ++ (runC most (stepC most s x).2 r).1, (runC most (stepC most s x).2 r).2)
theorem runC_append (most : Nat) : ∀ (a b : List (List UInt8)) (s : CSt), runC most s (a ++ b) = ((runC most s a).1 ++ (runC most (runC most s a).2 b).1, (runC most (runC most s a).2 b).2)
  | [], b, s => by simp [runC]
  | x :: r, b, s => by
    have ih := runC_append most r b (stepC most s x).2
    simp only [List.cons_append, runC, ih, List.append_assoc]
theorem runC_next (most : Nat) (s : CSt) {xs : List (List UInt8)} {k : Nat} {x : List UInt8} (h : xs[k]? = some x) :
    runC most s (xs.take (k + 1)) = ((runC most s (xs.take k)).1 ++ (stepC most (runC most s (xs.take k)).2 x).1, (stepC most (runC most s (xs.take k)).2 x).2) := by
  obtain ⟨hk, rfl⟩ := List.getElem?_eq_some_iff.1 h
  rw [List.take_succ_eq_append_getElem hk, runC_append]
  simp [runC]
theorem runC_le (most : Nat) (s : CSt) (xs : List (List UInt8)) (k : Nat) : ∃ r, (runC most s xs).1 = (runC most s (xs.take k)).1 ++ r := by
  refine ⟨(runC most (runC most s (xs.take k)).2 (xs.drop k)).1, ?_⟩
  conv => lhs; rw [← List.take_append_drop k xs, runC_append]
theorem runC_ok {most : Nat} : ∀ (xs : List (List UInt8)) (s : CSt), s.ok most → (runC most s xs).2.ok most
  | [], _, h => h
  | _ :: r, _, h => runC_ok r _ (stepC_ok h _)
/-- Things with their numbers. -/
def numL : Nat → List (List UInt8 × Bool) → List (Nat × List UInt8 × Bool)
  | _, [] => []
  | n, x :: r => (n, x) :: numL (n + 1) r
theorem numL_append : ∀ (a b : List (List UInt8 × Bool)) (n : Nat), numL n (a ++ b) = numL n a ++ numL (n + a.length) b
  | [], b, n => by simp [numL]
  | x :: r, b, n => by
    simp only [List.cons_append, numL, numL_append r b (n + 1), List.length_cons]
    rw [show n + 1 + r.length = n + (r.length + 1) from by omega]
theorem numL_length : ∀ (a : List (List UInt8 × Bool)) (n : Nat), (numL n a).length = a.length
  | [], _ => rfl
  | x :: r, n => by simp only [numL, List.length_cons, numL_length r (n + 1)]
def encLn (x : Nat × List UInt8 × Bool) : Array Value := #[.int .i64 (x.1 : Int), .agg #[.string ⟨x.2.1.toArray⟩, .bool x.2.2]]
/-- How a splitter stands in memory; its row of bytes is an old one (ob) or lies from B on, and is none of which G holds. -/
def SpW (W : World) (nb sp dp most B : Nat) (ob : Option Nat) (G : Nat → Prop) (s : CSt) : Prop :=
  ∃ vb, Has W sp 90 #[.pointer (some ⟨dp, 0, none⟩), .bool s.any, vb, .bool s.l.long, .int .i64 (most : Int), .bool s.l.half] ∧ Bs W nb vb s.l.bytes ∧ Dec W dp s.ws ∧ ∀ k, vb.ownBlock = some k → (ob = some k ∨ B ≤ k) ∧ ¬ G k
/-- So many pieces in a row, each read somewhere. -/
def PcsAt (W : World) (PA : Option Addr) (xs : List (List UInt8)) : Prop := ∀ k x, xs[k]? = some x → ∃ ad A c, PA = some ad ∧ W.cell? (ad.add k) = some (.slice A x.length c) ∧ Rd W (· < W.heap.size) A x
def lenV : Value → Nat
  | .slice _ n _ => n
  | _ => 0
section
variable {W W' : World} {nb sp dp most B n0 : Nat} {ob : Option Nat} {G Wr : Nat → Prop} {s : CSt}
theorem Dec.typed {d : Nat} {ws : List UInt8} (h : Dec W d ws) : ∃ cs, Has W d 57 cs := by obtain ⟨a, b, c, _, _, h⟩ := h; exact ⟨_, h⟩
theorem SpW.keep (h : SpW W nb sp dp most B ob G s) (hK : KeepL n0 Wr W W') (hs : ¬ Wr sp) (hd : ¬ Wr dp) (hW : ∀ k, Wr k → k < B) (ho : ∀ k, ob = some k → ¬ Wr k) : SpW W' nb sp dp most B ob G s := by
  obtain ⟨vb, h1, h2, h3, h4⟩ := h
  refine ⟨vb, hK.has (by decide) hs h1, h2.kept fun g hg => ?_, h3.kept ?_, h4⟩
  · obtain ⟨_, cs, hh⟩ := h2.own g hg
    refine (hK.has (by decide) (fun hw => ?_) hh).trans hh.symm
    rcases (h4 g hg).1 with h | h
    · exact ho g h hw
    · have := hW g hw; omega
  · obtain ⟨cs, hh⟩ := h3.typed
    exact (hK.has (by decide) hd hh).trans hh.symm
theorem SpW.below (h : SpW W nb sp dp most B ob G s) (hb : Below W.heap.size W W') : SpW W' nb sp dp most B ob G s := by
  obtain ⟨vb, h1, h2, h3, h4⟩ := h
  exact ⟨vb, h1.below hb h1.lt, h2.below hb, h3.below hb, h4⟩
theorem SpW.putObj (h : SpW W nb sp dp most B ob G s) {l : Nat} {o : Obj} (o' : Obj) (hl : W.heap[l]? = some o) (hc : o.isCells = false) : SpW (W.putObj l o') nb sp dp most B ob G s := by
  have key : ∀ {k : Nat} {t : TypeId} {cs : Array Value}, Has W k t cs → (W.putObj l o').heap[k]? = W.heap[k]? := fun {k t cs} hh => World.putObj_heap_other (fun e => by
    subst e
    have hh' : W.heap[k]? = some (.cells cs t (0, 0)) := hh
    rw [hl] at hh'
    rw [Option.some.inj hh'] at hc
    cases hc)
  obtain ⟨vb, h1, h2, h3, h4⟩ := h
  refine ⟨vb, (key h1).trans h1, h2.kept fun g hg => ?_, h3.kept ?_, h4⟩
  · obtain ⟨_, cs, hh⟩ := h2.own g hg
    exact key hh
  · obtain ⟨cs, hh⟩ := h3.typed
    exact key hh
end
theorem turn_text {B sp dp : Nat} {Ch : Nat → Prop} {w w' : World} {cs : Array Value} {ws : List UInt8} (h : Chg (fun k => k = sp ∨ k = dp) w w') (hs : Has w sp 90 cs) (hd : Dec w dp ws) (h1 : Ch sp ∨ B ≤ sp) (h2 : Ch dp ∨ B ≤ dp) : Turn B Ch w w' :=
  .of_chg h (fun k hk _ => by
    rcases hk with rfl | rfl
    · exact ⟨h1, _, _, _, hs, .inr (.inl rfl)⟩
    · obtain ⟨_, hh⟩ := hd.typed
      exact ⟨h2, _, _, _, hh, .inr (.inr rfl)⟩)
theorem turn_next {B sp nb : Nat} {Ch : Nat → Prop} {w w' : World} {cs : Array Value} {vb : Value} {l : List UInt8} (h : Chg (fun k => k = sp ∨ vb.ownBlock = some k) w w') (hs : Has w sp 90 cs) (hv : Bs w nb vb l) (h1 : Ch sp ∨ B ≤ sp) (h2 : ∀ k, vb.ownBlock = some k → Ch k ∨ B ≤ k) : Turn B Ch w w' :=
  .of_chg h (fun k hk _ => by
    rcases hk with rfl | hk
    · exact ⟨h1, _, _, _, hs, .inr (.inl rfl)⟩
    · obtain ⟨_, _, hh⟩ := hv.own k hk
      exact ⟨h2 k hk, _, _, _, hh, .inl rfl⟩)
set_option maxRecDepth 100000 in
set_option maxHeartbeats 4000000 in
theorem come1_in (n : Nat) (hn : 1 ≤ n) (l bP bS sp dp most n0 nb : Nat) (Wr : Nat → Prop) (ob : Option Nat) (PA : Option Addr) (pc : Nat) (xs : List (List UInt8)) (St : World → Prop) (W : World)
    (hWr : ∀ k, Wr k → k < n0) (hsW : ¬ Wr sp) (hdW : ¬ Wr dp) (hoW : ∀ k, ob = some k → ¬ Wr k) (hgn : 1 < nb) (hgs : 1 ≠ sp) (hnb : nb ≤ W.heap.size) (hm1 : 1 ≤ most) (hm : most ≤ 65536) (hxl : ∀ x ∈ xs, x.length ≤ 300000) (hxs : xs.length ≤ 1000000)
    (hStE : ∀ X, St X → Has X bP 39 #[.slice PA xs.length pc] ∧ Has X bS 72 #[.pointer (some ⟨sp, 0, none⟩)] ∧ PcsAt X PA xs ∧ Tab X ∧ Ends X)
    (hStT : ∀ X Y, Turn W.heap.size (fun k => k = sp ∨ k = dp ∨ ob = some k) X Y → St X → St Y) (hStK : ∀ X Y, KeepL n0 Wr X Y → St X → St Y)
    (s : CSt) (hok : s.ok most) (hN : (runC most s xs).1.length ≤ 1099511627776) (J Jx : List (Nat × List UInt8 × Bool) → World → Prop)
    (hJ : ∀ pre X Y, J pre X → Turn W.heap.size (fun k => k = sp ∨ k = dp ∨ ob = some k) X Y → J pre Y)
    (hY : ∀ pre y V, J pre V → pre.length < (runC most s xs).1.length → YieldAt Fence.wide (n - 1) Tryd.prog l (encLn y) V fun e V' => (e = .returned (.bool true) ∧ J (pre ++ [y]) V' ∧ KeepL n0 Wr V V') ∨ (e = .returned (.bool false) ∧ Jx (pre ++ [y]) V'))
    (hn0 : n0 ≤ W.heap.size) (hSt : St W) (hSp : SpW W nb sp dp most W.heap.size ob (fun _ => False) s) (h0 : J [] W) :
    CallsIn Fence.wide n Tryd.prog 69 #[.func (.yield l) #[] #[], .pointer (some ⟨bP, 0, none⟩), .pointer (some ⟨bS, 0, none⟩)] W fun e V => (∃ v, e = .returned v) ∧
      ((∃ ys, ys = numL 0 (runC most s xs).1 ∧ J ys V ∧ SpW V nb sp dp most W.heap.size ob (fun _ => False) (runC most s xs).2) ∨ (∃ pre, (∃ a b, (runC most s xs).1 = a ++ b ∧ pre = numL 0 a) ∧ Jx pre V)) := by
  have hStE' := Lib.hid hStE
  have hStT' := Lib.hid hStT
  have hStK' := Lib.hid hStK
  have hJ' := Lib.hid hJ
  have hY' := Lib.hid hY
  have hWr' := Lib.hid hWr
  have hoW' := Lib.hid hoW
  have hxl' := Lib.hid hxl
  have hSt' := Lib.hid hSt
  have hSp' := Lib.hid hSp
  have h0' := Lib.hid h0
  have hok' := Lib.hid hok
  obtain ⟨xn, hxn⟩ : ∃ xn, xs.length = xn := ⟨_, rfl⟩
  obtain ⟨e1, _, _, _, _⟩ := hStE W hSt
  rw [hxn] at e1
  have c0 := e1.cell 0
  have hxn' := Lib.hid hxn
  have hxb : xn ≤ 9223372036854775807 := by omega
  clear hStE hStT hStK hJ hY hWr hoW hxl hSt hSp h0 hok hxn e1
  refine callsIn_of_wp Tryd.func69 rfl trivial ?_ rfl
  simp only [Tryd.ntmps69, List.size_toArray, List.length_cons, List.length_nil, Nat.reduceAdd, Nat.reduceSub, Array.replicate_succ, Array.replicate_zero, List.push_toArray, List.append_toArray, List.nil_append, List.cons_append]
  refine wpIn_wide.2 ?_
  go_wp2
  go_step3
  go_wp2
  go_step3
  go_wp2
  refine (wpIn_wide (n := n)).1 ?_
  gi_loopw [4, 13] (fun x4 x13 wr => ∃ (k : Nat) (dn : List (List UInt8 × Bool)) (s' : CSt), x13 = .int .i64 (k : Int) ∧ k ≤ xn ∧ x4 = .int .i64 (dn.length : Int) ∧ runC most s (xs.take k) = (dn, s') ∧ SpW wr nb sp dp most W.heap.size ob (fun _ => False) s' ∧ J (numL 0 dn) wr ∧ St wr ∧ W.heap.size ≤ wr.heap.size)
    (fun _ x13 _ => xn - (intOf x13).toNat)
  case atStart => exact ⟨0, [], s, rfl, Nat.zero_le _, rfl, rfl, hSp'.out, h0'.out, hSt'.out, Nat.le_refl _⟩
  case round =>
    obtain ⟨k, dn, s', rfl, hk, rfl, hrun, hsp, hj, hst, hsz⟩ := hrel
    by_cases hlt : k < xn
    · obtain ⟨x, hx⟩ : ∃ x, xs[k]? = some x := ⟨xs[k]'(by have := hxn'.out; omega), List.getElem?_eq_getElem (by have := hxn'.out; omega)⟩
      obtain ⟨e1, e2, e3, hT, hE⟩ := hStE'.out wr hst
      obtain ⟨ad, A, c, hPA, hce, hrd⟩ := e3 k x hx
      subst hPA
      have c1 := e2.cell 0
      obtain ⟨vb, s1, s2, s3, s4⟩ := hsp
      have hx3 : x.length ≤ 300000 := hxl'.out x (List.mem_of_getElem? hx)
      have htx := text_any sp dp vb (.int .i64 (most : Int)) s'.any s'.l.long s'.l.half s'.ws x A x.length c wr s1 s3 rfl hrd hT (by omega)
      have hnext := runC_next most s hx
      rw [hrun] at hnext
      unfold stepC at hnext
      simp only at hnext
      have hlen : (textL s'.any (run4 (s'.ws ++ x)).1).length ≤ 1000000 := by
        have h1 := run4_len (s'.ws ++ x)
        have h2 := s3.len
        rw [List.length_append] at h1
        unfold textL
        split
        · have := trimL_len (run4 (s'.ws ++ x)).1; omega
        · omega
      unfold Texted at htx
      generalize textL s'.any (run4 (s'.ws ++ x)).1 = tx at htx hnext hlen
      generalize anyL s'.any (run4 (s'.ws ++ x)).1 = any2 at htx hnext
      generalize (run4 (s'.ws ++ x)).2 = ws2 at htx hnext
      obtain ⟨xl, hxle⟩ : ∃ xl, x.length = xl := ⟨_, rfl⟩
      rw [hxle] at htx hce
      have hokl := hok'.out
      have hokl2 : s'.l.ok most := by
        have := (runC_ok (xs.take k) s hokl).line
        rw [hrun] at this
        exact this
      have htx' := Lib.hid (callsIn_wide (n := n - 1).2 htx)
      have hnext' := Lib.hid hnext
      have hj' := Lib.hid hj
      have hst' := Lib.hid hst
      have s1' := Lib.hid s1
      have s2' := Lib.hid s2
      have s3' := Lib.hid s3
      have s4' := Lib.hid s4
      have hokl2' := Lib.hid hokl2
      have hki : (k : Int) < (xn : Int) := by omega
      clear htx hnext hj hst s1 s2 s3 s4 hokl hokl2 e1 e2 e3 hT hE hrd hrun hxle hx
      gi_wp2_with fail
      refine htx'.out.mono ?_
      rintro e w2 ⟨g, cs, fr, c2, rfl, ⟨hg1, hg2⟩, hr2, hc2, hc2m, hs2, hd2, hC2⟩
      have hT2 : Turn W.heap.size (fun k => k = sp ∨ k = dp ∨ ob = some k) wr w2 := turn_text hC2 s1'.out s3'.out (.inl (.inl rfl)) (.inl (.inr (.inl rfl)))
      have hj2 := Lib.hid (hJ'.out _ _ _ hj'.out hT2)
      have hst2 := Lib.hid (hStT'.out _ _ hT2 hst'.out)
      have hsz2 := hC2.size
      have hsp2 : SpW w2 nb sp dp most W.heap.size ob (· = g) ⟨ws2, any2, s'.l⟩ := by
        refine ⟨vb, hs2, s2'.out.kept fun q hq => ?_, hd2, fun q hq => ⟨(s4'.out q hq).1, fun h => ?_⟩⟩
        · obtain ⟨_, cs', hh⟩ := s2'.out.own q hq
          refine hC2.block q hh.lt (fun h => ?_)
          rcases h with rfl | rfl
          · exact Has.apart s1'.out hh (by decide) rfl
          · obtain ⟨_, hd⟩ := s3'.out.typed
            exact Has.apart hd hh (by decide) rfl
        · have := (s2'.out.own q hq).2.choose_spec.lt
          subst h
          omega
      have hsp2' := Lib.hid hsp2
      have hr2' := Lib.hid hr2
      have hg2' := Lib.hid hg2
      obtain ⟨m0, hm0⟩ : ∃ m0, tx.length = m0 := ⟨_, rfl⟩
      rw [hm0] at hc2 hlen ⊢
      have hm0' := Lib.hid hm0
      have hgW : W.heap.size ≤ g := by omega
      have hWw2 : W.heap.size ≤ w2.heap.size := by omega
      clear hT2 hsp2 hr2 hg2 hs2 hd2 hC2 hm0 hj' hst' s1' s2' s3' s4' htx' hce c1
      gi_wp2
      gi_loopw [4, 7] (fun x4 x7 wi => ∃ (em : List (List UInt8 × Bool)) (l2 : LSt) (t : List UInt8) (A2 : Option Addr) (m2 c3 : Nat), x4 = .int .i64 (em.length : Int) ∧ x7 = .slice A2 m2 c3 ∧ m2 = t.length ∧ m2 ≤ 1000000 ∧ m2 ≤ c3 ∧ c3 ≤ 9223372036854775807 ∧
          runC most s (xs.take (k + 1)) = (em ++ (runL most l2 t).1, ⟨ws2, any2, (runL most l2 t).2⟩) ∧ SpW wi nb sp dp most W.heap.size ob (· = g) ⟨ws2, any2, l2⟩ ∧ l2.ok most ∧ Rd wi (· = g) A2 t ∧ (∃ cs fr, wi.heap[g]? = some (.cells cs 5 fr)) ∧ J (numL 0 em) wi ∧ St wi ∧ W.heap.size ≤ wi.heap.size)
        (fun _ x7 _ => lenV x7)
      case atStart => exact ⟨dn, s'.l, tx, _, _, _, rfl, rfl, hm0'.out.symm, hlen, hc2, hc2m, hnext'.out, hsp2'.out, hokl2'.out, hr2'.out, ⟨_, _, hg2'.out⟩, hj2.out, hst2.out, hWw2⟩
      case round =>
        obtain ⟨em, l2, t, A2, m2, c3, rfl, rfl, hm2, hm2b, hmc, hc3, hrunI, hspI, hokI, hrI, hgI, hjI, hstI, hszI⟩ := hrel
        by_cases hpos : 0 < m2
        · obtain ⟨vb, q1, q2, q3, q4⟩ := hspI
          obtain ⟨e1, e2, _, _, hE⟩ := hStE'.out wr hstI
          have c1 := e2.cell 0
          obtain ⟨csg, frg, hgc⟩ := hgI
          have hgl := (Array.getElem?_eq_some_iff.1 hgc).1
          have hgsp : g ≠ sp := fun e => by
            subst e
            have q1' : wr.heap[g]? = some (.cells _ _ (0, 0)) := q1
            rw [hgc] at q1'
            injection q1' with q1'
            injection q1' with _ q1' _
            cases q1'
          have hnx := next_any (· = g) sp nb most (.pointer (some ⟨dp, 0, none⟩)) vb any2 l2 t A2 m2 c3 wr q1 q2 (by omega) hE hgn hgs (fun q hq => by subst hq; exact ⟨hgl, hgsp, fun h => (q4 _ h).2 rfl⟩) hrI hm2 hpos hmc hc3 hm1 hm hokI hm2b
          have hnx' := Lib.hid (callsIn_wide (n := n - 1).2 hnx)
          have q1' := Lib.hid q1
          have q2' := Lib.hid q2
          have q3' := Lib.hid q3
          have q4' := Lib.hid q4
          have hgc' := Lib.hid hgc
          have hrunI' := Lib.hid hrunI
          have hjI' := Lib.hid hjI
          have hstI' := Lib.hid hstI
          have hm2' := Lib.hid hm2
          clear hnx q1 q2 q3 q4 e1 e2 hE hgc hrunI hjI hstI hrI hm2 hokI
          gi_wp2_with fail
          refine hnx'.out.mono ?_
          rintro e w3 ⟨vb3, l3, p1, p2, p3, p4, p5, hcase⟩
          have hT3 : Turn W.heap.size (fun k => k = sp ∨ k = dp ∨ ob = some k) wr w3 := turn_next p5 q1'.out q2'.out (.inl (.inl rfl)) (fun q hq => (q4'.out q hq).1.imp (fun h => .inr (.inr h)) id)
          have hj3 := hJ'.out _ _ _ hjI'.out hT3
          have hst3 := hStT'.out _ _ hT3 hstI'.out
          have hsz3 := p5.size
          have hd3 : Dec w3 dp ws2 := q3'.out.kept (p5.block dp q3'.out.lt (fun h => by
            obtain ⟨_, hd⟩ := q3'.out.typed
            rcases h with h | h
            · exact Has.apart hd q1'.out (by decide) h
            · obtain ⟨_, _, hh⟩ := q2'.out.own _ h
              exact Has.apart hd hh (by decide) rfl))
          have hg3 : w3.heap[g]? = some (.cells csg 5 frg) := (p5.block g hgl (fun h => h.elim hgsp (fun h => (q4'.out _ h).2 rfl))).trans hgc'.out
          have hsp3 : SpW w3 nb sp dp most W.heap.size ob (· = g) ⟨ws2, any2, l3⟩ := ⟨vb3, p1, p2, hd3, fun q hq => by
            rcases p3 with h | h | ⟨q0, h, hq0⟩
            · rw [h] at hq; cases hq
            · exact q4'.out q (h.symm.trans hq)
            · rw [h] at hq
              obtain rfl := Option.some.inj hq
              exact ⟨.inr (by omega), by omega⟩⟩
          have hsp3' := Lib.hid hsp3
          have hg3' := Lib.hid hg3
          have hst3' := Lib.hid hst3
          have hj3' := Lib.hid hj3
          clear hT3 hj3 hst3 hd3 hg3 hsp3 p1 p2 p3 p5 hnx' q1' q2' q3' q4' hgc' hjI' hstI' c1
          rcases hcase with ⟨hr1, rfl⟩ | ⟨y, b, rest, A3, m3, c4, hr1, hm3, hlt3, hmc3, hc4, rfl, hrd3⟩
          · have hfin : runC most s (xs.take (k + 1)) = (em, ⟨ws2, any2, l3⟩) := by rw [hrunI'.out, hr1]; simp
            have hfin' := Lib.hid hfin
            have p4' := Lib.hid p4
            clear hr1 hfin hrunI' p4
            gi_wp2
            have hsp4 : SpW (w3.alloc (.cells #[.string ⟨#[]⟩, .bool false] 70)) nb sp dp most W.heap.size ob (fun _ => False) ⟨ws2, any2, l3⟩ := by
              obtain ⟨vb4, r1, r2, r3, r4⟩ := hsp3'.out.below ((Below.refl _ _).alloc (Nat.le_refl _) (.cells #[.string ⟨#[]⟩, .bool false] 70))
              exact ⟨vb4, r1, r2, r3, fun q hq => ⟨(r4 q hq).1, fun h => h⟩⟩
            exact ⟨⟨k + 1, em, _, by go_num, by omega, rfl, hfin'.out, hsp4, hJ'.out _ _ _ hj3'.out (Turn.alloc _ _ _ _), hStT'.out _ _ (Turn.alloc _ _ _ _) hst3'.out, by simp; omega⟩, by simp [intOf]; omega⟩
          · have hem : runC most s (xs.take (k + 1)) = ((em ++ [(y, b)]) ++ (runL most l3 rest).1, ⟨ws2, any2, (runL most l3 rest).2⟩) := by rw [hrunI'.out, hr1]; simp
            have hlen2 : em.length < (runC most s xs).1.length := by
              obtain ⟨r, hr⟩ := runC_le most s xs (k + 1)
              rw [hr, hem]
              simp
            have hW3 : Turn W.heap.size (fun k => k = sp ∨ k = dp ∨ ob = some k) w3 (w3.alloc (.cells #[.string ⟨y.toArray⟩, .bool b] 70)) := Turn.alloc _ _ _ _
            obtain ⟨fn, tmps, assign, body, hy, hR⟩ := hY'.out (numL 0 em) (em.length, y, b) _ (hJ'.out _ _ _ hj3'.out hW3) (by rw [numL_length]; exact hlen2)
            have hy' : (Instr.yield l #[.int .i64 (em.length : Int), .agg #[.string ⟨y.toArray⟩, .bool b]]).run Tryd.prog (w3.alloc (.cells #[.string ⟨y.toArray⟩, .bool b] 70)) = .ok (Next.round l fn tmps assign body) (w3.alloc (.cells #[.string ⟨y.toArray⟩, .bool b] 70)) := hy
            have hR2 := Lib.hid (hR.mono (R' := fun e W' => ∃ b2, e = .returned (.bool b2) ∧ YPost J Jx (KeepL n0 Wr) (numL 0 em ++ [(em.length, y, b)]) (w3.alloc (.cells #[.string ⟨y.toArray⟩, .bool b] 70)) b2 W') (by
              rintro e W' (⟨rfl, h1, h2⟩ | ⟨rfl, h1⟩)
              · exact ⟨true, rfl, h1, h2⟩
              · exact ⟨false, rfl, h1⟩))
            have hnum : numL 0 em ++ [(em.length, y, b)] = numL 0 (em ++ [(y, b)]) := by rw [numL_append, Nat.zero_add]; rfl
            have hnum' := Lib.hid hnum
            have hem' := Lib.hid hem
            have p4' := Lib.hid p4
            have hm3' := Lib.hid hm3
            have hrd3' := Lib.hid hrd3
            have hst4 := Lib.hid (hStT'.out _ _ hW3 hst3'.out)
            clear hW3
            have hemb : em.length ≤ 1099511627776 := by omega
            clear hy hR hr1 hnum hem p4 hm3 hrd3 hrunI' hlen2 hst3' hj3'
            obtain ⟨w4, hw4⟩ : ∃ w4, w3.alloc (.cells #[.string ⟨y.toArray⟩, .bool b] 70) = w4 := ⟨_, rfl⟩
            have hw4' := Lib.hid hw4
            rw [hw4] at hst4
            have hb34 : Below w3.heap.size w3 w4 := by rw [← hw4]; exact (Below.refl _ _).alloc (Nat.le_refl _) _
            have hz4 : w3.heap.size ≤ w4.heap.size := hb34.size
            have hsp4 := Lib.hid (hsp3'.out.below hb34)
            have hg4 := Lib.hid ((hb34.block g (Array.getElem?_eq_some_iff.1 hg3'.out).1).trans hg3'.out)
            have hrd4 := Lib.hid (hrd3'.out.kept (fun q (hq : q = g) => hb34.block q (by subst hq; exact (Array.getElem?_eq_some_iff.1 hg3'.out).1)))
            clear hsp3' hg3' hrd3' hb34 hw4
            gi_wp2
            rw [hw4'.out]
            rw [hw4'.out] at hR2
            refine hR2.out.mono ?_
            rintro e w5 ⟨b2, rfl, hP⟩
            cases b2
            · have hP' := Lib.hid (show Jx (numL 0 em ++ [(em.length, y, b)]) w5 from hP)
              clear hP
              gi_wp2
              rw [Exit.noGoto_normal]
              go_end0
              refine ⟨⟨_, rfl⟩, .inr ⟨_, ?_, hP'.out⟩⟩
              obtain ⟨r, hr⟩ := runC_le most s xs (k + 1)
              rw [hem'.out] at hr
              exact ⟨em ++ [(y, b)], _, hr.trans (List.append_assoc _ _ _), hnum'.out⟩
            · have hP' := Lib.hid (show J (numL 0 em ++ [(em.length, y, b)]) w5 ∧ KeepL n0 Wr w4 w5 from hP)
              clear hP
              have hK5 := hP'.out.2
              have hsp5 := hsp4.out.keep hK5 hsW hdW (fun q hq => by have := hWr'.out q hq; omega) hoW'.out
              have hg5 := hK5.high _ _ _ _ hg4.out (by decide) (fun h => by have := hWr'.out _ h; omega)
              have hrd5 := hrd4.out.kept (W' := w5) (fun q (hq : q = g) => by subst hq; exact hg5.trans hg4.out.symm)
              have hst5 := hStK'.out _ _ hK5 hst4.out
              have hsz5 := hK5.size
              have hj5 := hP'.out.1
              rw [hnum'.out] at hj5
              have hsp5' := Lib.hid hsp5
              have hg5' := Lib.hid hg5
              have hrd5' := Lib.hid hrd5
              have hst5' := Lib.hid hst5
              have hj5' := Lib.hid hj5
              clear hK5 hsp5 hg5 hrd5 hst5 hj5 hP' hsp4 hg4 hrd4 hst4
              have hlen5 : (em ++ [(y, b)]).length = em.length + 1 := by simp
              have hlen5' := Lib.hid hlen5
              have hw4x := hw4'.out
              clear hw4x hlen5
              gi_wp2
              exact ⟨⟨em ++ [(y, b)], l3, rest, A3, m3, c4, by rw [hlen5'.out]; go_num, rfl, hm3'.out, by have := hm2'.out; omega, hmc3, hc4, hem'.out, hsp5'.out, p4'.out, hrd5'.out, ⟨_, _, hg5'.out⟩, hj5'.out, hst5'.out, by omega⟩, by have := hm2'.out; simp [lenV]; omega⟩
        · obtain rfl : t = [] := List.eq_nil_of_length_eq_zero (by omega)
          have hmi : ¬ (0 : Int) < (m2 : Int) := by omega
          clear hm2 hpos
          have hsp4 : SpW wr nb sp dp most W.heap.size ob (fun _ => False) ⟨ws2, any2, l2⟩ := by
            obtain ⟨vb4, r1, r2, r3, r4⟩ := hspI
            exact ⟨vb4, r1, r2, r3, fun q hq => ⟨(r4 q hq).1, fun h => h⟩⟩
          have hfin : runC most s (xs.take (k + 1)) = (em, ⟨ws2, any2, l2⟩) := by rw [hrunI]; simp [runL]
          have hfin' := Lib.hid hfin
          have hsp4' := Lib.hid hsp4
          have hj' := Lib.hid hjI
          have hst' := Lib.hid hstI
          clear hrunI hspI hokI hrI hgI hjI hstI hfin hsp4
          gi_wp2
          exact ⟨⟨k + 1, em, _, by go_num, by omega, rfl, hfin'.out, hsp4'.out, hj'.out, hst'.out, hszI⟩, by simp [intOf]; omega⟩
    · obtain rfl : k = xn := by omega
      have hrun' := Lib.hid hrun
      have hsp' := Lib.hid hsp
      have hj' := Lib.hid hj
      clear hrun hsp hj hst
      gi_wp2
      rw [Exit.noGoto_normal]
      go_end0
      have h := hrun'.out
      rw [List.take_of_length_le (by have := hxn'.out; omega)] at h
      rw [h]
      exact ⟨⟨_, rfl⟩, .inl ⟨_, rfl, hj'.out, hsp'.out⟩⟩
end Go.Proofs.YthdmmlaahjgijaaDoor
