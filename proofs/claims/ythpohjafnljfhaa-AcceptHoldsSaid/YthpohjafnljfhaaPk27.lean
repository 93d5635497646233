
namespace Go.Proofs.Ythpohjafnljfhaa

/-! ## Ranges: mathematics -/
namespace Ac
def signs : List UInt8 := [33, 35, 36, 37, 38, 39, 42, 43, 45, 46, 94, 95, 96, 124, 126]
def tok (b : UInt8) : Bool := (97 ≤ b && b ≤ 122 || 65 ≤ b && b ≤ 90) || (48 ≤ b && b ≤ 57) || signs.contains b
def val (b : UInt8) : Bool := b == 9 || (32 ≤ b && b ≤ 126) || 128 ≤ b
def blk (b : UInt8) : Bool := b == 9 || b == 32
def low (b : UInt8) : UInt8 := if 65 ≤ b && b ≤ 90 then b + 32 else b
def token (s : List UInt8) : Bool := !s.isEmpty && s.all tok
def trimA (s : List UInt8) : List UInt8 := s.dropWhile blk
def trimZ (s : List UInt8) : List UInt8 := (s.reverse.dropWhile blk).reverse
def trim (s : List UInt8) : List UInt8 := trimZ (trimA s)
def value (s : List UInt8) : Bool := s.all val && trim s == s
def lower (s : List UInt8) : List UInt8 := s.map low
/-- What is behind the quote with which one begins. -/
def quoteT : List UInt8 → Option (List UInt8)
  | [] => none
  | 34 :: r => if r = [] then some [] else none
  | 92 :: r => match r with
    | [] => none
    | b :: r => if val b then (quoteT r).map (b :: ·) else none
  | b :: r => if val b then (quoteT r).map (b :: ·) else none
def quoted (s : List UInt8) : Option (List UInt8) := match s with
  | 34 :: r => quoteT r
  | _ => none
/-- Within a quoted text, or not, behind a text. -/
def st : Bool → List UInt8 → Bool
  | q, [] => q
  | true, 92 :: r => match r with
    | [] => true
    | _ :: v => st true v
  | q, b :: r => if b = 34 then st (!q) r else st q r
/-- What stands between bytes that are in no quoted text. -/
def consH (b : UInt8) : List (List UInt8) → List (List UInt8)
  | [] => [[b]]
  | p :: ps => (b :: p) :: ps
def sp (c : UInt8) : Bool → List UInt8 → List (List UInt8)
  | _, [] => [[]]
  | true, 92 :: r => match r with
    | [] => [[92]]
    | d :: v => consH 92 (consH d (sp c true v))
  | q, b :: r => if b = c ∧ q = false then [] :: sp c false r else consH b (sp c (if b = 34 then !q else q) r)
def thou (s : List UInt8) : Option Nat := match s with
  | [48] => some 0
  | [49] => some 1000
  | 48 :: 46 :: r => if r.length ≤ 3 ∧ r.all (fun b => 48 ≤ b && b ≤ 57) = true then some ((r ++ List.replicate (3 - r.length) 48).foldl (fun (n : Nat) (b : UInt8) => 10 * n + (b.toNat - 48)) 0) else none
  | 49 :: 46 :: r => if r.length ≤ 3 ∧ r.all (fun b => b == 48) = true then some 1000 else none
  | _ => none
/-- A parameter: its name and value. -/
def param (s : List UInt8) : Option (List UInt8 × List UInt8) :=
  if token (trim (s.takeWhile (· != 61))) = true then match s.dropWhile (· != 61) with
    | [] => some (lower (trim (s.takeWhile (· != 61))), [])
    | _ :: v => if token (trim v) = true then some (lower (trim (s.takeWhile (· != 61))), trim v) else (quoted (trim v)).map fun t => (lower (trim (s.takeWhile (· != 61))), t)
  else none
structure Rg where
  ty : List UInt8
  sub : List UInt8
  params : Nat
  quality : Nat
deriving DecidableEq
/-- What parameters say: how many ahead of the first q, its quality. -/
def pars : Nat → List (List UInt8) → Option (Nat × Nat)
  | k, [] => some (k, 1000)
  | k, p :: ps => if p = [] then pars k ps else match param p with
    | none => none
    | some (n, v) => if n = [113] then match thou v with
        | none => none
        | some q => if (ps.all fun p => p.isEmpty || (param p).isSome) = true then some (k, q) else none
      else pars (k + 1) ps
def one (t : List UInt8) : Option Rg := match (sp 59 false t).map trim with
  | [] => none
  | h :: ps => match h.dropWhile (· != 47) with
    | [] => none
    | _ :: u => if token (lower (h.takeWhile (· != 47))) = true ∧ token (lower u) = true ∧ ¬ (lower (h.takeWhile (· != 47)) = [42] ∧ lower u ≠ [42]) then
        (pars 0 ps).map fun x => ⟨lower (h.takeWhile (· != 47)), lower u, x.1, x.2⟩
      else none
def allO {α β : Type} (f : α → Option β) : List α → Option (List β)
  | [] => some []
  | x :: r => match f x, allO f r with
    | some y, some l => some (y :: l)
    | _, _ => none
def items (s : List UInt8) : List (List UInt8) := ((sp 44 false s).map trim).filter fun t => !t.isEmpty
/-- A list of ranges. -/
def list (s : List UInt8) : Option (List Rg) := if value s = true then allO one (items s) else none
def fits (r : Rg) (kind sub : List UInt8) : Nat :=
  if 0 < r.params then 0 else if r.ty = [42] ∧ r.sub = [42] then 1 else if r.ty = kind ∧ r.sub = [42] then 2 else if r.ty = kind ∧ r.sub = sub then 3 else 0
/-- The best one, of equal ones the first. -/
def best (kind sub : List UInt8) : Nat → Nat → List Rg → Nat
  | _, q, [] => q
  | n, q, r :: l => if n < fits r kind sub then best kind sub (fits r kind sub) r.quality l else best kind sub n q l
def quality (s kind sub : List UInt8) : Option Nat := (list s).map fun l => if l = [] then 1000 else best kind sub 0 0 l
def more : List UInt8 := [44, 42, 47, 42, 59, 113, 61, 48, 46, 49]

/-! ### What follows -/
theorem st_b92 (d : UInt8) (v : List UInt8) : st true (92 :: d :: v) = st true v := rfl
theorem st_step {q : Bool} {b : UInt8} (r : List UInt8) (h : ¬ (q = true ∧ b = 92)) : st q (b :: r) = st (if b = 34 then !q else q) r := by
  conv => lhs; unfold st
  split
  · rename_i e; cases e
  · rename_i e; injection e with e1 e2; exact absurd ⟨rfl, e1⟩ h
  · rename_i e1 e2; injection e2 with e2 e3; subst e2; subst e3
    split <;> rfl
theorem sp_step {c : UInt8} {q : Bool} {b : UInt8} (r : List UInt8) (h : ¬ (q = true ∧ b = 92)) : sp c q (b :: r) = if b = c ∧ q = false then [] :: sp c false r else consH b (sp c (if b = 34 then !q else q) r) := by
  conv => lhs; unfold sp
  split
  · rename_i e; cases e
  · rename_i e; injection e with e1 e2; exact absurd ⟨rfl, e1⟩ h
  · rename_i e1 e2; injection e2 with e2 e3; subst e2; subst e3
    rfl
/-- A text's shape, for what goes over it. -/
theorem goes {M : Bool → List UInt8 → Prop} (h0 : ∀ q, M q []) (h1 : M true [92]) (h2 : ∀ d v, M true v → M true (92 :: d :: v)) (h3 : ∀ q b r, ¬ (q = true ∧ b = 92) → M (if b = 34 then !q else q) r → M q (b :: r)) : ∀ (q : Bool) (s : List UInt8), M q s
  | q, [] => h0 q
  | q, b :: r => by
    by_cases h : q = true ∧ b = 92
    · obtain ⟨rfl, rfl⟩ := h
      cases r with
      | nil => exact h1
      | cons d v => exact h2 d v (goes h0 h1 h2 h3 true v)
    · exact h3 q b r h (goes h0 h1 h2 h3 _ r)
theorem sp_ne (c : UInt8) : ∀ q s, sp c q s ≠ [] := by
  have hc : ∀ b l, consH b l ≠ [] := by intro b l; cases l <;> simp [consH]
  refine goes (fun q => by simp [sp]) (by simp [sp]) (fun d v _ => hc _ _) (fun q b r h _ => ?_)
  rw [sp_step r h]
  split
  · simp
  · exact hc _ _
theorem st_append (b : List UInt8) : ∀ q a, st q a = false → st q (a ++ b) = st false b := by
  refine goes (fun q h => ?_) (fun h => ?_) (fun d v ih h => ?_) (fun q x r hn ih h => ?_)
  · have : q = false := h
    subst this; rfl
  · cases h
  · exact ih h
  · rw [st_step r hn] at h
    rw [List.cons_append, st_step _ hn]
    exact ih h
theorem sp_append {c : UInt8} (hc : c ≠ 34) (r : List UInt8) : ∀ q a, st q a = false → sp c q (a ++ c :: r) = sp c q a ++ sp c false r := by
  refine goes (fun q h => ?_) (fun h => ?_) (fun d v ih h => ?_) (fun q x s hn ih h => ?_)
  · have : q = false := h
    subst this
    rw [List.nil_append, sp_step _ (by simp), if_pos ⟨rfl, rfl⟩]
    rfl
  · cases h
  · show consH 92 (consH d (sp c true (v ++ c :: r))) = consH 92 (consH d (sp c true v)) ++ _
    rw [ih h]
    cases hs : sp c true v with
    | nil => exact absurd hs (sp_ne c true v)
    | cons p ps => rfl
  · rw [st_step s hn] at h
    rw [List.cons_append, sp_step _ hn, sp_step _ hn]
    split
    · rename_i hx
      obtain ⟨rfl, rfl⟩ := hx
      rw [if_neg hc] at ih h
      rw [ih h]; rfl
    · rw [ih h]
      cases hs : sp c (if x = 34 then !q else q) s with
      | nil => exact absurd hs (sp_ne c _ s)
      | cons p ps => rfl
theorem consH_len (b : UInt8) {n : Nat} {l : List (List UInt8)} (h : l.length ≤ n + 1) : (consH b l).length ≤ n + 1 := by
  cases l with
  | nil => simp [consH]
  | cons x xs => exact h
theorem sp_len {c : UInt8} (hc : c ≠ 34) : ∀ q s, (sp c q s).length ≤ s.length + 1 := by
  refine goes (fun q => by simp [sp]) (by simp [sp]) (fun d v ih => ?_) (fun q b r hn ih => ?_)
  · have := consH_len 92 (consH_len d ih)
    show (consH 92 (consH d (sp c true v))).length ≤ v.length + 1 + 1 + 1
    omega
  · rw [sp_step r hn]
    split
    · rename_i hx
      obtain ⟨rfl, rfl⟩ := hx
      rw [if_neg hc] at ih
      simp; omega
    · have := consH_len b ih
      simp; omega
/-- What stands between ends its quoted texts: so does the whole. -/
theorem st_parts {c : UInt8} (hc : c ≠ 34) : ∀ q s, (match sp c q s with | [] => True | h :: t => st q h = false → (∀ p ∈ t, st false p = false) → st q s = false) := by
  refine goes (fun q => ?_) ?_ (fun d v ih => ?_) (fun q x s hn ih => ?_)
  · simp [sp]
  · simp [sp]
  · show match consH 92 (consH d (sp c true v)) with | [] => True | h :: t => st true h = false → (∀ p ∈ t, st false p = false) → st true (92 :: d :: v) = false
    cases hs : sp c true v with
    | nil => exact absurd hs (sp_ne c true v)
    | cons p ps =>
      rw [hs] at ih
      exact ih
  · rw [sp_step _ hn]
    by_cases hx : x = c ∧ q = false
    · obtain ⟨rfl, rfl⟩ := hx
      rw [if_pos ⟨rfl, rfl⟩]
      rw [if_neg hc] at ih
      show st false [] = false → (∀ p ∈ sp x false s, st false p = false) → st false (x :: s) = false
      intro _ h2
      rw [st_step _ hn, if_neg hc]
      cases hs : sp x false s with
      | nil => exact absurd hs (sp_ne x false s)
      | cons p ps =>
        rw [hs] at ih h2
        exact ih (h2 p List.mem_cons_self) fun p' hp => h2 p' (List.mem_cons_of_mem _ hp)
    · rw [if_neg hx]
      cases hs : sp c (if x = 34 then !q else q) s with
      | nil => exact absurd hs (sp_ne c _ s)
      | cons p ps =>
        rw [hs] at ih
        show st q (x :: p) = false → (∀ p' ∈ ps, st false p' = false) → st q (x :: s) = false
        intro h1 h2
        rw [st_step p hn] at h1
        rw [st_step s hn]
        exact ih h1 h2
theorem st_plain {s : List UInt8} (h : ∀ b ∈ s, b ≠ 34) : st false s = false := by
  induction s with
  | nil => rfl
  | cons b r ih =>
    rw [st_step _ (by simp), if_neg (h b List.mem_cons_self)]
    exact ih fun x hx => h x (List.mem_cons_of_mem _ hx)
theorem st_plain_ahead {x : List UInt8} (r : List UInt8) (h : ∀ b ∈ x, b ≠ 34) : st false (x ++ r) = st false r := st_append r false x (st_plain h)
theorem blk_34 {b : UInt8} (h : blk b = true) : b ≠ 34 := by rintro rfl; exact absurd h (by decide)
theorem tok_34 {b : UInt8} (h : tok b = true) : b ≠ 34 := by rintro rfl; exact absurd h (by decide)
theorem low_34 {b : UInt8} (h : tok (low b) = true) : b ≠ 34 := by rintro rfl; exact absurd h (by decide)
theorem mem_takeWhile {p : UInt8 → Bool} : ∀ {s : List UInt8} {b : UInt8}, b ∈ s.takeWhile p → p b = true := by
  intro s
  induction s with
  | nil => intro b h; cases h
  | cons x r ih =>
    intro b h
    rw [List.takeWhile_cons] at h
    split at h
    · rename_i hx
      rcases List.mem_cons.1 h with rfl | h
      · exact hx
      · exact ih h
    · cases h
theorem trim_parts (s : List UInt8) : ∃ x y, s = x ++ (trim s ++ y) ∧ (∀ b ∈ x, blk b = true) ∧ (∀ b ∈ y, blk b = true) := by
  refine ⟨s.takeWhile blk, ((trimA s).reverse.takeWhile blk).reverse, ?_, fun b hb => mem_takeWhile hb, fun b hb => mem_takeWhile (List.mem_reverse.1 hb)⟩
  have e : trim s ++ ((trimA s).reverse.takeWhile blk).reverse = trimA s := by
    unfold trim trimZ
    rw [← List.reverse_append, List.takeWhile_append_dropWhile, List.reverse_reverse]
  rw [e]
  exact (List.takeWhile_append_dropWhile).symm
theorem st_trim {s : List UInt8} (h : st false (trim s) = false) : st false s = false := by
  obtain ⟨x, y, e, hx, hy⟩ := trim_parts s
  rw [e, st_plain_ahead _ fun b hb => blk_34 (hx b hb), st_append y _ _ h]
  exact st_plain fun b hb => blk_34 (hy b hb)
theorem st_quote : ∀ {s t : List UInt8}, quoteT s = some t → st true s = false
  | [], t, h => by simp [quoteT] at h
  | b :: r, t, h => by
    by_cases h34 : b = 34
    · subst h34
      simp only [quoteT] at h
      split at h
      · rename_i hr; subst hr; rfl
      · cases h
    · by_cases h92 : b = 92
      · subst h92
        cases r with
        | nil => simp [quoteT] at h
        | cons d v =>
          simp only [quoteT] at h
          split at h
          · cases hv : quoteT v with
            | none => rw [hv] at h; cases h
            | some u => exact (show st true v = false from st_quote hv)
          · cases h
      · rw [st_step r (fun e => h92 e.2), if_neg h34]
        have e : quoteT (b :: r) = if val b then (quoteT r).map (b :: ·) else none := by
          conv => lhs; unfold quoteT
          split
          · rename_i e; cases e
          · rename_i e; injection e with e _; exact absurd e h34
          · rename_i e; injection e with e _; exact absurd e h92
          · rename_i e; injection e with e1 e2; subst e1; subst e2; rfl
        rw [e] at h
        split at h
        · cases hv : quoteT r with
          | none => rw [hv] at h; cases h
          | some u => exact st_quote hv
        · cases h
theorem st_quoted {s t : List UInt8} (h : quoted s = some t) : st false s = false := by
  unfold quoted at h
  split at h
  · rename_i r
    rw [st_step r (by simp), if_pos rfl]
    exact st_quote h
  · cases h
theorem token_34 {s : List UInt8} (h : token s = true) : ∀ b ∈ s, b ≠ 34 := by
  unfold token at h
  rw [Bool.and_eq_true, List.all_eq_true] at h
  exact fun b hb => tok_34 (h.2 b hb)
theorem tokenlow_34 {s : List UInt8} (h : token (lower s) = true) : ∀ b ∈ s, b ≠ 34 := by
  unfold token lower at h
  rw [Bool.and_eq_true, List.all_eq_true] at h
  exact fun b hb => low_34 (h.2 _ (List.mem_map_of_mem hb))
theorem trim_34 {s : List UInt8} (h : ∀ b ∈ trim s, b ≠ 34) : ∀ b ∈ s, b ≠ 34 := by
  obtain ⟨x, y, e, hx, hy⟩ := trim_parts s
  intro b hb
  rw [e] at hb
  rcases List.mem_append.1 hb with hb | hb
  · exact blk_34 (hx b hb)
  · rcases List.mem_append.1 hb with hb | hb
    · exact h b hb
    · exact blk_34 (hy b hb)
theorem st_param {s : List UInt8} (h : (param s).isSome = true) : st false s = false := by
  unfold param at h
  split at h
  · rename_i hn
    have e := (List.takeWhile_append_dropWhile (p := (· != (61 : UInt8))) (l := s)).symm
    rw [e, st_plain_ahead _ (trim_34 (token_34 hn))]
    split at h
    · rename_i hd; rw [hd]; rfl
    · rename_i c v hd
      have hc : c = 61 := by
        have hne : s.dropWhile (· != (61 : UInt8)) ≠ [] := by rw [hd]; simp
        have := List.head_dropWhile_not (· != (61 : UInt8)) hne
        simp only [hd, List.head_cons] at this
        simpa using this
      subst hc
      rw [hd, st_step v (by simp), if_neg (by decide)]
      split at h
      · rename_i ht
        exact st_trim (st_plain (token_34 ht))
      · cases hq : quoted (trim v) with
        | none => rw [hq] at h; cases h
        | some t => exact st_trim (st_quoted hq)
  · cases h
theorem pars_closed : ∀ {ps : List (List UInt8)} {k : Nat} {x : Nat × Nat}, pars k ps = some x → ∀ p ∈ ps, st false p = false
  | [], _, _, _, p, hp => by cases hp
  | y :: ps, k, x, h, p, hp => by
    unfold pars at h
    split at h
    · rename_i hy
      rcases List.mem_cons.1 hp with rfl | hp
      · rw [hy]; rfl
      · exact pars_closed h p hp
    · cases hpar : param y with
      | none => rw [hpar] at h; cases h
      | some nv =>
        obtain ⟨n, v⟩ := nv
        rw [hpar] at h
        simp only at h
        rcases List.mem_cons.1 hp with rfl | hp
        · exact st_param (by rw [hpar]; rfl)
        · split at h
          · cases hth : thou v with
            | none => rw [hth] at h; cases h
            | some q =>
              rw [hth] at h
              simp only at h
              split at h
              · rename_i ha
                have := List.all_eq_true.1 ha p hp
                rcases Bool.or_eq_true _ _ ▸ this with he | he
                · rw [List.isEmpty_iff.1 he]; rfl
                · exact st_param he
              · cases h
          · exact pars_closed h p hp
theorem one_closed {t : List UInt8} {r : Rg} (h : one t = some r) : st false t = false := by
  unfold one at h
  cases hs : sp 59 false t with
  | nil => exact absurd hs (sp_ne _ _ _)
  | cons p ps =>
    have hp := st_parts (c := 59) (by decide) false t
    rw [hs] at h hp
    simp only [List.map_cons] at h
    split at h
    · cases h
    · rename_i c u hd
      split at h
      · rename_i ht
        cases hq : pars 0 (ps.map trim) with
        | none => rw [hq] at h; cases h
        | some x =>
          refine hp (st_trim ?_) fun p' hp' => st_trim (pars_closed hq _ (List.mem_map_of_mem hp'))
          have e := (List.takeWhile_append_dropWhile (p := (· != (47 : UInt8))) (l := trim p)).symm
          have hc : c = 47 := by
            have hne : (trim p).dropWhile (· != (47 : UInt8)) ≠ [] := by rw [hd]; simp
            have := List.head_dropWhile_not (· != (47 : UInt8)) hne
            simp only [hd, List.head_cons] at this
            simpa using this
          subst hc
          rw [e, hd, st_plain_ahead _ (tokenlow_34 ht.1), st_step u (by simp), if_neg (by decide)]
          exact st_plain (tokenlow_34 ht.2.1)
      · cases h
theorem allO_mem {α β : Type} {f : α → Option β} : ∀ {l : List α} {m : List β}, allO f l = some m → ∀ x ∈ l, (f x).isSome = true
  | [], _, _, x, hx => by cases hx
  | y :: l, m, h, x, hx => by
    unfold allO at h
    split at h
    · rename_i a b h1 h2
      rcases List.mem_cons.1 hx with rfl | hx
      · rw [h1]; rfl
      · exact allO_mem h2 x hx
    · cases h
theorem allO_append {α β : Type} {f : α → Option β} {x : α} {y : β} (hx : f x = some y) : ∀ {l : List α} {m : List β}, allO f l = some m → allO f (l ++ [x]) = some (m ++ [y])
  | [], m, h => by
    injection h with h
    subst h
    simp [allO, hx]
  | a :: l, m, h => by
    unfold allO at h
    split at h
    · rename_i b n h1 h2
      injection h with h
      subst h
      rw [List.cons_append]
      unfold allO
      rw [h1, allO_append hx h2]; rfl
    · cases h
theorem list_closed {s : List UInt8} {l : List Rg} (h : list s = some l) : st false s = false := by
  unfold list at h
  split at h
  · have hm := allO_mem h
    have hp := st_parts (c := 44) (by decide) false s
    cases hs : sp 44 false s with
    | nil => exact absurd hs (sp_ne _ _ _)
    | cons p ps =>
      rw [hs] at hp
      have hall : ∀ x ∈ p :: ps, st false x = false := by
        intro x hx
        refine st_trim ?_
        cases he : trim x with
        | nil => rfl
        | cons a b =>
          have hi : trim x ∈ items s := by
            unfold items
            rw [hs]
            exact List.mem_filter.2 ⟨List.mem_map_of_mem hx, by rw [he]; rfl⟩
          have := hm _ hi
          rw [← he]
          cases ho : one (trim x) with
          | none => rw [ho] at this; cases this
          | some r => exact one_closed ho
      exact hp (hall p List.mem_cons_self) fun x hx => hall x (List.mem_cons_of_mem _ hx)
  · cases h
theorem value_more {s : List UInt8} (h : value s = true) : value (s ++ more) = true := by
  unfold value at h ⊢
  rw [Bool.and_eq_true, beq_iff_eq] at h ⊢
  obtain ⟨h1, h2⟩ := h
  refine ⟨by rw [List.all_append, h1]; rfl, ?_⟩
  cases s with
  | nil => decide
  | cons b r =>
    have hb : blk b = false := by
      cases hb : blk b with
      | false => rfl
      | true =>
        exfalso
        have e : trimA (b :: r) = trimA r := by unfold trimA; rw [List.dropWhile_cons, if_pos hb]
        have hl : (trim (b :: r)).length ≤ r.length := by
          unfold trim
          rw [e]
          unfold trimZ trimA
          rw [List.length_reverse]
          exact Nat.le_trans ((List.dropWhile_suffix _).length_le) (by rw [List.length_reverse]; exact (List.dropWhile_suffix _).length_le)
        rw [h2] at hl
        simp at hl
        omega
    have e1 : trimA ((b :: r) ++ more) = (b :: r) ++ more := by unfold trimA; rw [List.cons_append, List.dropWhile_cons, if_neg (by simp [hb])]
    unfold trim
    rw [e1]
    unfold trimZ
    rw [List.reverse_append, show more.reverse = 49 :: [46, 48, 61, 113, 59, 42, 47, 42, 44] by decide, List.cons_append, List.dropWhile_cons, if_neg (by decide), ← List.cons_append, show (49 :: [46, 48, 61, 113, 59, 42, 47, 42, 44] : List UInt8) = more.reverse by decide, ← List.reverse_append, List.reverse_reverse]
theorem one_more : one [42, 47, 42, 59, 113, 61, 48, 46, 49] = some ⟨[42], [42], 0, 100⟩ := by decide +kernel
/-- A range more makes no other one less. -/
theorem list_more {s : List UInt8} {l : List Rg} (h : list s = some l) : list (s ++ more) = some (l ++ [⟨[42], [42], 0, 100⟩]) := by
  have hc := list_closed h
  unfold list at h ⊢
  split at h
  · rename_i hv
    rw [if_pos (value_more hv)]
    have e : items (s ++ more) = items s ++ [[42, 47, 42, 59, 113, 61, 48, 46, 49]] := by
      unfold items
      rw [show more = 44 :: [42, 47, 42, 59, 113, 61, 48, 46, 49] from rfl, sp_append (by decide) _ false s hc, List.map_append, List.filter_append]
      congr 1
    rw [e]
    exact allO_append one_more h
  · cases h
theorem digits_le : ∀ (l : List UInt8) (n : Nat), (∀ b ∈ l, b ≤ 57) → l.foldl (fun (n : Nat) (b : UInt8) => 10 * n + (b.toNat - 48)) n + 1 ≤ (n + 1) * 10 ^ l.length
  | [], n, _ => by simp
  | b :: l, n, h => by
    have hb : b.toNat ≤ 57 := UInt8.le_iff_toNat_le.1 (h b List.mem_cons_self)
    have := digits_le l (10 * n + (b.toNat - 48)) fun x hx => h x (List.mem_cons_of_mem _ hx)
    rw [List.foldl_cons, List.length_cons, Nat.pow_succ]
    refine Nat.le_trans this ?_
    rw [Nat.mul_comm (10 ^ l.length) 10, ← Nat.mul_assoc]
    exact Nat.mul_le_mul_right _ (by omega)
theorem thou_le {s : List UInt8} {n : Nat} (h : thou s = some n) : n ≤ 1000 := by
  unfold thou at h
  split at h
  · injection h with h; omega
  · injection h with h; omega
  · rename_i r
    split at h
    · rename_i hr
      obtain ⟨hr, ha⟩ := hr
      injection h with h
      have := digits_le (r ++ List.replicate (3 - r.length) 48) 0 (by
        intro b hb
        rcases List.mem_append.1 hb with hb | hb
        · have := List.all_eq_true.1 ha b hb
          rw [Bool.and_eq_true, decide_eq_true_iff, decide_eq_true_iff] at this
          exact this.2
        · rw [(List.mem_replicate.1 hb).2]; decide)
      rw [List.length_append, List.length_replicate, show r.length + (3 - r.length) = 3 by omega, h] at this
      omega
    · cases h
  · split at h
    · injection h with h; omega
    · cases h
  · cases h
theorem pars_le : ∀ {ps : List (List UInt8)} {k : Nat} {x : Nat × Nat}, pars k ps = some x → x.2 ≤ 1000
  | [], k, x, h => by
    injection h with h
    subst h
    exact Nat.le_refl _
  | y :: ps, k, x, h => by
    unfold pars at h
    split at h
    · exact pars_le h
    · split at h
      · cases h
      · split at h
        · split at h
          · cases h
          · rename_i q hq
            split at h
            · injection h with h
              subst h
              exact thou_le hq
            · cases h
        · exact pars_le h
theorem one_le {t : List UInt8} {r : Rg} (h : one t = some r) : r.quality ≤ 1000 := by
  unfold one at h
  split at h
  · cases h
  · split at h
    · cases h
    · split at h
      · rename_i ps _ _ _ _ _ _
        cases hq : pars 0 ps with
        | none => rw [hq] at h; cases h
        | some x =>
          rw [hq] at h
          injection h with h
          subst h
          exact pars_le hq
      · cases h
theorem allO_all {α β : Type} {f : α → Option β} {p : β → Prop} (hf : ∀ x y, f x = some y → p y) : ∀ {l : List α} {m : List β}, allO f l = some m → ∀ y ∈ m, p y
  | [], m, h, y, hy => by
    injection h with h
    subst h
    cases hy
  | a :: l, m, h, y, hy => by
    unfold allO at h
    split at h
    · rename_i b n h1 h2
      injection h with h
      subst h
      rcases List.mem_cons.1 hy with rfl | hy
      · exact hf _ _ h1
      · exact allO_all hf h2 y hy
    · cases h
/-- Qualities are from 0 to 1000. -/
theorem list_le {s : List UInt8} {l : List Rg} (h : list s = some l) : ∀ r ∈ l, r.quality ≤ 1000 := by
  unfold list at h
  split at h
  · exact allO_all (fun _ _ => one_le) h
  · cases h
theorem consH_mem (b : UInt8) {n : Nat} {l : List (List UInt8)} (h : ∀ p ∈ l, p.length ≤ n) : ∀ p ∈ consH b l, p.length ≤ n + 1 := by
  intro p hp
  cases l with
  | nil =>
    have : p = [b] := by simpa [consH] using hp
    subst this
    simp
  | cons x xs =>
    rcases List.mem_cons.1 (show p ∈ (b :: x) :: xs from hp) with rfl | hp
    · have := h x List.mem_cons_self
      simp; omega
    · have := h p (List.mem_cons_of_mem _ hp)
      omega
theorem sp_mem {c : UInt8} (hc : c ≠ 34) : ∀ q s, ∀ p ∈ sp c q s, p.length ≤ s.length := by
  refine goes (fun q p hp => ?_) (fun p hp => ?_) (fun d v ih p hp => ?_) (fun q b r hn ih p hp => ?_)
  · have : p = [] := by simpa [sp] using hp
    subst this; simp
  · have : p = [92] := by simpa [sp] using hp
    subst this; simp
  · exact consH_mem 92 (consH_mem d ih) p hp
  · rw [sp_step r hn] at hp
    split at hp
    · rename_i hx
      obtain ⟨rfl, rfl⟩ := hx
      rw [if_neg hc] at ih
      rcases List.mem_cons.1 hp with rfl | hp
      · simp
      · have := ih p hp
        simp; omega
    · exact consH_mem b ih p hp
theorem trim_len (s : List UInt8) : (trim s).length ≤ s.length := by
  obtain ⟨x, y, e, _, _⟩ := trim_parts s
  have := congrArg List.length e
  simp at this
  omega
end Ac
end Go.Proofs.Ythpohjafnljfhaa
