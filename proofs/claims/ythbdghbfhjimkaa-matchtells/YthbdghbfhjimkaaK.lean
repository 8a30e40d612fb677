/- Plain mathematics of matchers: which may be, their text, what is read of a text, whether they hold. No program in it. -/
import Derived.Test.YthbdghbfhjimkaaP2
namespace Go.Proofs.Ythbdghbfhjimkaa

abbrev Mt := Tx × UInt8 × Tx
def sgn (c : UInt8) : Bool := c.toNat == 61 || c.toNat == 33 || c.toNat == 94
def opS (o : UInt8) : Tx := if o = 1 then [33, 61] else if o = 2 then [94, 61] else [61]
def mayV0 (s : Tx) : Bool := decide (s.length ≤ 32) && s.all vlc
def mayM1 (x : Mt) : Bool := decide (x.2.1.toNat ≤ 2) && mayN x.1 && mayV0 x.2.2
def mayM (m : List Mt) : Bool := decide (m.length ≤ 6) && m.all mayM1
def itemM (x : Mt) : Tx := x.1 ++ (opS x.2.1 ++ quote x.2.2)
def printM (m : List Mt) : Tx := 123 :: (Lib.join (m.map itemM) [44] ++ [125])
def asks (o : UInt8) (has wants : Tx) : Bool := if o = 0 then has == wants else if o = 1 then has != wants else if o = 2 then Lib.hasPrefix has wants else false
def does1 (l : List Lb) (x : Mt) : Bool := asks x.2.1 (valueL l x.1) x.2.2
def doesM (m : List Mt) (l : List Lb) : Bool := m.all (does1 l)
theorem mayV0_or (v : Tx) : mayV0 v = (v.isEmpty || mayV v) := by
  unfold mayV0 mayV mayB
  cases v with
  | nil => rfl
  | cons c t => simp
theorem mayM_iff {m : List Mt} : mayM m = true ↔ m.length ≤ 6 ∧ ∀ x ∈ m, mayM1 x = true := by
  unfold mayM
  rw [Bool.and_eq_true, decide_eq_true_iff, List.all_eq_true]
theorem mayM1_iff {x : Mt} : mayM1 x = true ↔ x.2.1.toNat ≤ 2 ∧ mayN x.1 = true ∧ mayV0 x.2.2 = true := by
  unfold mayM1
  rw [Bool.and_eq_true, Bool.and_eq_true, decide_eq_true_iff, and_assoc]
theorem mayM_part {m : List Mt} (h : mayM m = true) (i j : Nat) : mayM ((m.drop i).take j) = true := by
  rw [mayM_iff] at h ⊢
  exact ⟨by simp; omega, fun x hx => h.2 x (List.mem_of_mem_drop (List.mem_of_mem_take hx))⟩
theorem mayM_left {l m : List Mt} (h : mayM (l ++ m) = true) : mayM l = true := by
  have := mayM_part h 0 l.length
  simpa using this
theorem mayM_len {l : List Mt} (h : mayM l = true) : l.length ≤ 6 := (mayM_iff.1 h).1
theorem mayM_mem {m : List Mt} (h : mayM m = true) {x : Mt} (hx : x ∈ m) : x.2.1.toNat ≤ 2 ∧ mayN x.1 = true ∧ mayV0 x.2.2 = true := mayM1_iff.1 ((mayM_iff.1 h).2 x hx)
theorem mayV0_len {s : Tx} (h : mayV0 s = true) : s.length ≤ 32 := by
  unfold mayV0 at h
  rw [Bool.and_eq_true, decide_eq_true_iff] at h
  exact h.1
theorem mayN_all {s : Tx} (h : mayN s = true) : ∀ c ∈ s, nmc c = true := by
  unfold mayN at h
  rw [Bool.and_eq_true] at h
  exact (mayB_iff.1 h.1).2.2
theorem sgn_nmc {c : UInt8} (h : nmc c = true) : sgn c = false := by
  unfold sgn
  unfold nmc low at h
  simp at h ⊢
  omega
theorem mayN_sgn {s : Tx} (h : mayN s = true) : ∀ c ∈ s, sgn c = false := fun c hc => sgn_nmc (mayN_all h c hc)
theorem op_cases {o : UInt8} (h : o.toNat ≤ 2) : o = 0 ∨ o = 1 ∨ o = 2 := by
  rcases (by omega : o.toNat = 0 ∨ o.toNat = 1 ∨ o.toNat = 2) with e | e | e
  · exact .inl (UInt8.toNat_inj.1 e)
  · exact .inr (.inl (UInt8.toNat_inj.1 e))
  · exact .inr (.inr (UInt8.toNat_inj.1 e))
/-- the sign that a text begins with. -/
def takeS : Tx → Option (UInt8 × Tx)
  | 61 :: r => some (0, r)
  | 33 :: 61 :: r => some (1, r)
  | 94 :: 61 :: r => some (2, r)
  | _ => none
theorem takeS_op {o : UInt8} (h : o.toNat ≤ 2) (r : Tx) : takeS (opS o ++ r) = some (o, r) := by
  rcases op_cases h with rfl | rfl | rfl <;> rfl
theorem takeS_inv {s r : Tx} {o : UInt8} (h : takeS s = some (o, r)) : o.toNat ≤ 2 ∧ s = opS o ++ r := by
  unfold takeS at h
  split at h <;> cases h <;> exact ⟨by decide, rfl⟩
theorem opS_len (o : UInt8) : 1 ≤ (opS o).length ∧ (opS o).length ≤ 2 := by
  unfold opS
  split
  · simp
  · split <;> simp
theorem opS_sgn {o : UInt8} {c : UInt8} {r : Tx} (h : opS o = c :: r) : sgn c = true := by
  unfold opS at h
  split at h
  · cases h; rfl
  · split at h <;> cases h <;> rfl
/-- the value in quotes that a text begins with, if it may be. -/
def takeW (s : Tx) : Option (Tx × Tx) :=
  match takeV s with
  | none => none
  | some (v, t) => if mayV0 v then some (v, t) else none
theorem takeW_quote {v : Tx} (h : mayV0 v = true) (t : Tx) : takeW (quote v ++ t) = some (v, t) := by
  unfold takeW
  rw [takeV_quote]
  simp only [h, if_true]
theorem takeW_inv {s v t : Tx} (h : takeW s = some (v, t)) : s = quote v ++ t ∧ mayV0 v = true := by
  unfold takeW at h
  cases hv : takeV s with
  | none => rw [hv] at h; cases h
  | some p =>
    obtain ⟨v', t'⟩ := p
    rw [hv] at h
    simp only at h
    split at h
    · rename_i hm
      cases h
      exact ⟨takeV_inv hv, hm⟩
    · cases h
/-- what stands ahead of the first sign, and from there on. -/
def cutS : Tx → Tx × Tx
  | [] => ([], [])
  | c :: t => if sgn c then ([], c :: t) else (c :: (cutS t).1, (cutS t).2)
theorem cutS_eq : ∀ (s : Tx), s = (cutS s).1 ++ (cutS s).2
  | [] => rfl
  | c :: t => by
    rw [cutS]
    split
    · rfl
    · show c :: t = c :: ((cutS t).1 ++ (cutS t).2)
      rw [← cutS_eq t]
theorem cutS_at : ∀ (n : Tx) {c : UInt8} (r : Tx), (∀ x ∈ n, sgn x = false) → sgn c = true → cutS (n ++ c :: r) = (n, c :: r)
  | [], c, r, _, h => by
    show cutS (c :: r) = _
    rw [cutS, if_pos h]
  | d :: n, c, r, hn, h => by
    rw [List.cons_append, cutS, if_neg (by rw [hn d (by simp)]; simp), cutS_at n r (fun x hx => hn x (List.mem_cons_of_mem _ hx)) h]
/-- a matcher that a text begins with. -/
def takeM (s : Tx) : Option (Mt × Tx) :=
  match takeS (cutS s).2 with
  | none => none
  | some (o, r) => match takeW r with
    | none => none
    | some (v, t) => some (((cutS s).1, o, v), t)
theorem takeM_item {x : Mt} (t : Tx) (h : mayM1 x = true) : takeM (itemM x ++ t) = some (x, t) := by
  obtain ⟨h1, h2, h3⟩ := mayM1_iff.1 h
  obtain ⟨n, o, v⟩ := x
  have hc : cutS (itemM (n, o, v) ++ t) = (n, opS o ++ quote v ++ t) := by
    cases ho : opS o with
    | nil => have := opS_len o; rw [ho] at this; simp at this
    | cons c r =>
      have := cutS_at n (c := c) (r ++ quote v ++ t) (mayN_sgn h2) (opS_sgn ho)
      unfold itemM
      simp only [ho]
      simpa using this
  unfold takeM
  rw [hc]
  simp only
  rw [List.append_assoc, takeS_op h1]
  simp only
  rw [takeW_quote h3]
theorem takeM_inv {s : Tx} {x : Mt} {t : Tx} (h : takeM s = some (x, t)) : s = itemM x ++ t := by
  unfold takeM at h
  have hc := cutS_eq s
  cases hs : takeS (cutS s).2 with
  | none => rw [hs] at h; cases h
  | some p =>
    obtain ⟨o, r⟩ := p
    rw [hs] at h
    simp only at h
    cases hv : takeW r with
    | none => rw [hv] at h; cases h
    | some q =>
      obtain ⟨v, u⟩ := q
      rw [hv] at h
      cases h
      conv => lhs; rw [hc, (takeS_inv hs).2, (takeW_inv hv).1]
      simp [itemM]
theorem itemM_len (x : Mt) : x.1.length + x.2.2.length + 3 ≤ (itemM x).length ∧ (itemM x).length ≤ x.1.length + 2 * x.2.2.length + 4 := by
  obtain ⟨n, o, v⟩ := x
  have h1 := opS_len o
  have h2 := (item_len ([], v)).1
  have h3 := quote_len v
  unfold item at h2
  unfold itemM
  simp at h2 ⊢
  omega
/-- matcher by matcher. -/
def goM : Nat → Tx → List Mt → Tx → Option (List Mt × Tx)
  | 0, _, _, _ => none
  | f + 1, a, m, s => if Lib.hasPrefix s [125] then some (m, s.drop 1) else if Lib.hasPrefix s a then (match takeM (s.drop a.length) with
    | none => none
    | some (x, u) => if mayM (m ++ [x]) then goM f [44] (m ++ [x]) u else none) else none
def parseM (s : Tx) : Option (List Mt × Tx) := if Lib.hasPrefix s [123] then goM 8 [] [] (s.drop 1) else none
theorem pre_one (c d : UInt8) (s : Tx) : Lib.hasPrefix (c :: s) [d] = (d == c) := by simp [Lib.hasPrefix, List.isPrefixOf]
theorem preK_nil (d : UInt8) : Lib.hasPrefix [] [d] = false := rfl
theorem pre_of_one {s : Tx} {d : UInt8} (h : Lib.hasPrefix s [d] = true) : ∃ r, s = d :: r := by
  cases s with
  | nil => rw [preK_nil] at h; cases h
  | cons c r =>
    rw [pre_one] at h
    exact ⟨r, by rw [beq_iff_eq.1 h]⟩
theorem itemM_head {x : Mt} {s : Tx} {d : UInt8} (h : mayM1 x = true) (hd : nmc d = false) : Lib.hasPrefix (itemM x ++ s) [d] = false := by
  obtain ⟨n, o, v⟩ := x
  have hn := (mayM1_iff.1 h).2.1
  cases n with
  | nil => exact absurd (show mayN [] = true from hn) (by decide)
  | cons c n =>
    have hc := mayN_all hn c (by simp)
    show Lib.hasPrefix (c :: _) [d] = false
    rw [pre_one]
    simp only [beq_eq_false_iff_ne, ne_eq]
    rintro rfl
    rw [hc] at hd
    cases hd
theorem goM_back (t : Tx) : ∀ (m l : List Mt) (f : Nat) (a : Tx), m ≠ [] → m.length + 1 ≤ f → mayM (l ++ m) = true → (a = [] ∨ a = [44]) → goM f a l (a ++ (Lib.join (m.map itemM) [44] ++ 125 :: t)) = some (l ++ m, t)
  | [], _, _, _, h, _, _, _ => absurd rfl h
  | x :: m, l, 0, _, _, hf, _, _ => by simp at hf
  | x :: m, l, f + 1, a, _, hf, hm, ha => by
    have hx : mayM1 x = true := (mayM_iff.1 hm).2 x (by simp)
    have hl1 : mayM (l ++ [x]) = true := by
      refine mayM_left (m := m) ?_
      simpa using hm
    have hp1 : Lib.hasPrefix (a ++ (Lib.join ((x :: m).map itemM) [44] ++ 125 :: t)) [125] = false := by
      rcases ha with rfl | rfl
      · rw [List.nil_append, List.map_cons, Lib.join_cons, List.append_assoc]
        exact itemM_head hx (by decide)
      · rfl
    have hp2 : Lib.hasPrefix (a ++ (Lib.join ((x :: m).map itemM) [44] ++ 125 :: t)) a = true := by
      rcases ha with rfl | rfl
      · simp [Lib.hasPrefix]
      · rw [List.singleton_append, pre_one]; rfl
    rw [goM, hp1, hp2, List.drop_left]
    simp only [if_true, Bool.false_eq_true, if_false]
    by_cases h0 : m = []
    · subst h0
      rw [List.map_singleton, Lib.join_one, takeM_item _ hx]
      simp only [hl1, if_true]
      obtain ⟨g, rfl⟩ : ∃ g, f = g + 1 := ⟨f - 1, by simp at hf; omega⟩
      rw [goM, pre_one]
      rfl
    · rw [List.map_cons, join2 _ _ (by simpa using h0), List.append_assoc, List.cons_append, takeM_item _ hx]
      simp only [hl1, if_true]
      have := goM_back t m (l ++ [x]) f [44] h0 (by simp at hf; omega) (by simpa using hm) (.inr rfl)
      simpa using this
theorem goM_inv : ∀ (f : Nat) (a : Tx) (l : List Mt) (s : Tx) (r : List Mt) (t : Tx), goM f a l s = some (r, t) → mayM l = true → (a = [] ∨ a = [44]) → mayM r = true ∧ ((r = l ∧ s = 125 :: t) ∨ ∃ m, m ≠ [] ∧ r = l ++ m ∧ s = a ++ (Lib.join (m.map itemM) [44] ++ 125 :: t))
  | 0, _, _, _, _, _, h, _, _ => by cases h
  | f + 1, a, l, s, r, t, h, hl, ha => by
    rw [goM] at h
    split at h
    · rename_i hp
      obtain ⟨r', rfl⟩ := pre_of_one hp
      cases h
      exact ⟨hl, .inl ⟨rfl, rfl⟩⟩
    · split at h
      · rename_i hp
        have hs : s = a ++ s.drop a.length := by
          rcases ha with rfl | rfl
          · rfl
          · obtain ⟨r', rfl⟩ := pre_of_one hp
            rfl
        cases hx : takeM (s.drop a.length) with
        | none => rw [hx] at h; cases h
        | some p =>
          obtain ⟨x, u⟩ := p
          rw [hx] at h
          simp only at h
          rw [takeM_inv hx] at hs
          split at h
          · rename_i hm
            obtain ⟨h1, h2⟩ := goM_inv f [44] (l ++ [x]) u r t h hm (.inr rfl)
            refine ⟨h1, .inr ?_⟩
            rcases h2 with ⟨h3, h4⟩ | ⟨m, h2, h3, h4⟩
            · refine ⟨[x], by simp, h3, ?_⟩
              rw [hs, h4, List.map_singleton, Lib.join_one]
            · refine ⟨x :: m, by simp, by rw [h3]; simp, ?_⟩
              rw [hs, h4, List.map_cons, join2 _ _ (by simpa using h2)]
              simp
          · cases h
      · cases h
theorem parseM_back {m : List Mt} (t : Tx) (h : mayM m = true) : parseM (printM m ++ t) = some (m, t) := by
  show parseM (123 :: (Lib.join (m.map itemM) [44] ++ [125] ++ t)) = _
  unfold parseM
  rw [pre_one, beq_self_eq_true, if_pos rfl, List.drop_succ_cons, List.drop_zero, List.append_assoc]
  cases m with
  | nil => rfl
  | cons x m =>
    have hl := mayM_len h
    have := goM_back t (x :: m) [] 8 [] (by simp) (by omega) h (.inl rfl)
    simpa using this
theorem parseM_inv {s : Tx} {m : List Mt} {t : Tx} (h : parseM s = some (m, t)) : mayM m = true ∧ s = printM m ++ t := by
  unfold parseM at h
  split at h
  · rename_i hp
    obtain ⟨r, rfl⟩ := pre_of_one hp
    rw [List.drop_succ_cons, List.drop_zero] at h
    obtain ⟨h1, h2⟩ := goM_inv _ _ _ _ _ _ h (by decide) (.inl rfl)
    refine ⟨h1, ?_⟩
    rcases h2 with ⟨h3, h4⟩ | ⟨m', _, h3, h4⟩
    · subst h3
      rw [h4]
      rfl
    · rw [h3, h4]
      simp [printM]
  · cases h
/-- the document's own way. -/
def cutR : Tx → Tx × Tx
  | [] => ([], [])
  | c :: t => if nmc c then (c :: (cutR t).1, (cutR t).2) else ([], c :: t)
theorem cutR_eq : ∀ (s : Tx), s = (cutR s).1 ++ (cutR s).2
  | [] => rfl
  | c :: t => by
    rw [cutR]
    split
    · show c :: t = c :: ((cutR t).1 ++ (cutR t).2)
      rw [← cutR_eq t]
    · rfl
theorem cutR_at : ∀ (n : Tx) {c : UInt8} (r : Tx), (∀ x ∈ n, nmc x = true) → nmc c = false → cutR (n ++ c :: r) = (n, c :: r)
  | [], c, r, _, h => by
    show cutR (c :: r) = _
    rw [cutR, if_neg (by rw [h]; simp)]
  | d :: n, c, r, hn, h => by
    rw [List.cons_append, cutR, if_pos (hn d (by simp)), cutR_at n r (fun x hx => hn x (List.mem_cons_of_mem _ hx)) h]
theorem cutR_len (s : Tx) : (cutR s).1.length ≤ s.length := by
  have := congrArg List.length (cutR_eq s)
  rw [List.length_append] at this
  omega
theorem cutR_take (s : Tx) : (cutR s).1 = s.take (cutR s).1.length ∧ (cutR s).2 = s.drop (cutR s).1.length := by
  have h := cutR_eq s
  generalize (cutR s).1 = a at *
  generalize (cutR s).2 = b at *
  subst h
  simp
def takeR (s : Tx) : Option (Mt × Tx) :=
  match takeS (cutR s).2 with
  | none => none
  | some (o, r) => match takeV r with
    | none => none
    | some (v, t) => some (((cutR s).1, o, v), t)
theorem opS_nmc {o : UInt8} {c : UInt8} {r : Tx} (h : opS o = c :: r) : nmc c = false := by
  unfold opS at h
  split at h
  · cases h; rfl
  · split at h <;> cases h <;> rfl
theorem takeR_item {x : Mt} (t : Tx) (h : mayM1 x = true) : takeR (itemM x ++ t) = some (x, t) := by
  obtain ⟨h1, h2, h3⟩ := mayM1_iff.1 h
  obtain ⟨n, o, v⟩ := x
  have hc : cutR (itemM (n, o, v) ++ t) = (n, opS o ++ quote v ++ t) := by
    cases ho : opS o with
    | nil => have := opS_len o; rw [ho] at this; simp at this
    | cons c r =>
      have := cutR_at n (c := c) (r ++ quote v ++ t) (mayN_all h2) (opS_nmc ho)
      unfold itemM
      simp only [ho]
      simpa using this
  unfold takeR
  rw [hc]
  simp only
  rw [List.append_assoc, takeS_op h1]
  simp only
  rw [takeV_quote]
theorem takeR_inv {s : Tx} {x : Mt} {t : Tx} (h : takeR s = some (x, t)) : s = itemM x ++ t := by
  unfold takeR at h
  have hc := cutR_eq s
  cases hs : takeS (cutR s).2 with
  | none => rw [hs] at h; cases h
  | some p =>
    obtain ⟨o, r⟩ := p
    rw [hs] at h
    simp only at h
    cases hv : takeV r with
    | none => rw [hv] at h; cases h
    | some q =>
      obtain ⟨v, u⟩ := q
      rw [hv] at h
      cases h
      conv => lhs; rw [hc, (takeS_inv hs).2, takeV_inv hv]
      simp [itemM]
def goQ : Nat → List Mt → Tx → Option (List Mt × Tx)
  | 0, _, _ => none
  | f + 1, m, s => match takeR s with
    | none => none
    | some (_, []) => none
    | some (x, c :: u) => if 6 < m.length + 1 then none else if c = 125 then (if mayM (m ++ [x]) then some (m ++ [x], u) else none) else if c = 44 then goQ f (m ++ [x]) u else none
def parseQ (s : Tx) : Option (List Mt × Tx) :=
  match s with
  | c :: d :: t => if c = 123 then (if d = 125 then some ([], t) else goQ 7 [] (d :: t)) else none
  | _ => none
theorem goQ_back (t : Tx) : ∀ (m l : List Mt) (f : Nat), m ≠ [] → m.length ≤ f → mayM (l ++ m) = true → goQ f l (Lib.join (m.map itemM) [44] ++ 125 :: t) = some (l ++ m, t)
  | [], _, _, h, _, _ => absurd rfl h
  | x :: m, l, 0, _, hf, _ => by simp at hf
  | x :: m, l, f + 1, _, hf, hm => by
    have hx : mayM1 x = true := (mayM_iff.1 hm).2 x (by simp)
    have hl6 := mayM_len hm
    simp at hl6
    by_cases h0 : m = []
    · subst h0
      rw [List.map_singleton, Lib.join_one, goQ, takeR_item _ hx]
      simp only [hm, if_true]
      rw [if_neg (by simp at hl6; omega)]
    · rw [List.map_cons, join2 _ _ (by simpa using h0), List.append_assoc, List.cons_append, goQ, takeR_item _ hx]
      simp only [if_true]
      rw [if_neg (by omega), if_neg (by decide), goQ_back t m (l ++ [x]) f h0 (by simpa using hf) (by simpa using hm)]
      simp
theorem goQ_inv : ∀ (f : Nat) (l : List Mt) (s : Tx) (r : List Mt) (t : Tx), goQ f l s = some (r, t) → mayM r = true ∧ ∃ m, m ≠ [] ∧ r = l ++ m ∧ s = Lib.join (m.map itemM) [44] ++ 125 :: t
  | 0, _, _, _, _, h => by cases h
  | f + 1, l, s, r, t, h => by
    rw [goQ] at h
    cases hx : takeR s with
    | none => rw [hx] at h; cases h
    | some p =>
      obtain ⟨x, u⟩ := p
      rw [hx] at h
      cases u with
      | nil => cases h
      | cons c u =>
        simp only at h
        have hs := takeR_inv hx
        split at h
        · cases h
        · split at h
          · rename_i hc
            subst hc
            split at h
            · rename_i hm
              cases h
              exact ⟨hm, [x], by simp, rfl, by rw [hs, List.map_singleton, Lib.join_one]⟩
            · cases h
          · split at h
            · rename_i hc
              subst hc
              obtain ⟨h1, m, h2, h3, h4⟩ := goQ_inv f _ _ _ _ h
              refine ⟨h1, x :: m, by simp, by rw [h3]; simp, ?_⟩
              rw [hs, h4, List.map_cons, join2 _ _ (by simpa using h2)]
              simp
            · cases h
theorem parseQ_cons (d : UInt8) (t : Tx) : parseQ (123 :: d :: t) = if d = 125 then some ([], t) else goQ 7 [] (d :: t) := by simp [parseQ]
theorem parseQ_back {m : List Mt} (t : Tx) (h : mayM m = true) : parseQ (printM m ++ t) = some (m, t) := by
  show parseQ (123 :: (Lib.join (m.map itemM) [44] ++ [125] ++ t)) = _
  rw [List.append_assoc]
  cases m with
  | nil => rfl
  | cons x m =>
    have hx : mayM1 x = true := (mayM_iff.1 h).2 x (by simp)
    have hg := goQ_back t (x :: m) [] 7 (by simp) (by have := mayM_len h; omega) h
    have hp : Lib.hasPrefix (Lib.join ((x :: m).map itemM) [44] ++ ([125] ++ t)) [125] = false := by
      rw [List.map_cons, Lib.join_cons, List.append_assoc]
      exact itemM_head hx (by decide)
    have hg' : goQ 7 [] (Lib.join ((x :: m).map itemM) [44] ++ ([125] ++ t)) = some (x :: m, t) := hg
    cases hr : (Lib.join ((x :: m).map itemM) [44] ++ ([125] ++ t) : Tx) with
    | nil => simp at hr
    | cons d u =>
      rw [hr] at hp hg'
      rw [pre_one] at hp
      rw [parseQ_cons, if_neg (by rintro rfl; simp at hp)]
      exact hg'
theorem parseQ_inv {s : Tx} {m : List Mt} {t : Tx} (h : parseQ s = some (m, t)) : mayM m = true ∧ s = printM m ++ t := by
  match s, h with
  | c :: d :: u, h =>
    unfold parseQ at h
    simp only at h
    split at h
    · rename_i hc
      subst hc
      split at h
      · rename_i hd
        subst hd
        cases h
        exact ⟨by decide, rfl⟩
      · obtain ⟨h1, m', _, h3, h4⟩ := goQ_inv _ _ _ _ _ h
        refine ⟨h1, ?_⟩
        rw [h4, h3]
        simp [printM]
    · cases h
theorem parseQ_eq (s : Tx) : parseQ s = parseM s := by
  cases h1 : parseQ s with
  | some p =>
    obtain ⟨m, t⟩ := p
    obtain ⟨hm, e⟩ := parseQ_inv h1
    rw [e, parseM_back t hm]
  | none =>
    cases h2 : parseM s with
    | none => rfl
    | some p =>
      obtain ⟨m, t⟩ := p
      obtain ⟨hm, e⟩ := parseM_inv h2
      rw [e, parseQ_back t hm] at h1
      cases h1
/-- the text in quotes that a text begins with, as it stands: behind the first quote. -/
def scanQ : Tx → Option (Tx × Tx)
  | [] => none
  | [c] => if c = 34 then some ([34], []) else none
  | c :: d :: t => if c = 34 then some ([34], d :: t) else if c = 92 then (scanQ t).map (fun p => (c :: d :: p.1, p.2)) else (scanQ (d :: t)).map (fun p => (c :: p.1, p.2))
theorem scanQ_nil : scanQ [] = none := by rw [scanQ]
theorem scanQ_q (t : Tx) : scanQ (34 :: t) = some ([34], t) := by cases t <;> simp [scanQ]
theorem scanQ_b0 : scanQ [92] = none := by simp [scanQ]
theorem scanQ_b (d : UInt8) (t : Tx) : scanQ (92 :: d :: t) = (scanQ t).map (fun p => (92 :: d :: p.1, p.2)) := by simp [scanQ]
theorem scanQ_c {c : UInt8} (t : Tx) (h1 : c ≠ 34) (h2 : c ≠ 92) : scanQ (c :: t) = (scanQ t).map (fun p => (c :: p.1, p.2)) := by
  cases t with
  | nil => simp [scanQ, h1]
  | cons d t => simp [scanQ, h1, h2]
theorem scan_unq : ∀ (n : Nat) (s acc : Tx), s.length ≤ n → (scanQ s = none → unq acc s = none) ∧ ∀ q t, scanQ s = some (q, t) → s = q ++ t ∧ ∀ u, unq acc (q ++ u) = (unq acc q).map (fun p => (p.1, u))
  | _, [], acc, _ => ⟨fun _ => unq_nil acc, (fun q t h => by rw [scanQ_nil] at h; cases h)⟩
  | 0, c :: s, _, hn => by simp at hn
  | n + 1, c :: s, acc, hn => by
    simp at hn
    by_cases h1 : c = 34
    · subst h1
      rw [scanQ_q]
      refine ⟨(fun h => by cases h), fun q t h => ?_⟩
      cases h
      refine ⟨rfl, fun u => ?_⟩
      show unq acc (34 :: u) = _
      rw [unq_q, unq_q]
      rfl
    · by_cases h2 : c = 92
      · subst h2
        cases s with
        | nil =>
          rw [scanQ_b0]
          exact ⟨fun _ => unq_b0 acc, (fun q t h => by cases h)⟩
        | cons d s =>
          rw [scanQ_b]
          simp at hn
          cases hd : spc d
          · obtain ⟨i1, i2⟩ := scan_unq n s acc (by omega)
            refine ⟨fun _ => unq_bad acc s hd, fun q t h => ?_⟩
            cases hs : scanQ s with
            | none => rw [hs] at h; cases h
            | some p =>
              obtain ⟨q', t'⟩ := p
              rw [hs] at h
              cases h
              obtain ⟨e1, _⟩ := i2 _ _ hs
              refine ⟨by simp [← e1], fun u => ?_⟩
              show unq acc (92 :: d :: (q' ++ u)) = (unq acc (92 :: d :: q')).map _
              rw [unq_bad _ _ hd, unq_bad _ _ hd]
              rfl
          · obtain ⟨i1, i2⟩ := scan_unq n s (acc ++ [d]) (by omega)
            refine ⟨fun h => ?_, fun q t h => ?_⟩
            · rw [unq_b _ _ hd]
              cases hs : scanQ s with
              | none => exact i1 hs
              | some p => rw [hs] at h; cases h
            · cases hs : scanQ s with
              | none => rw [hs] at h; cases h
              | some p =>
                obtain ⟨q', t'⟩ := p
                rw [hs] at h
                cases h
                obtain ⟨e1, e2⟩ := i2 _ _ hs
                refine ⟨by simp [← e1], fun u => ?_⟩
                show unq acc (92 :: d :: (q' ++ u)) = (unq acc (92 :: d :: q')).map _
                rw [unq_b _ _ hd, unq_b _ _ hd, e2]
      · rw [scanQ_c s h1 h2]
        obtain ⟨i1, i2⟩ := scan_unq n s (acc ++ [c]) (by omega)
        refine ⟨fun h => ?_, fun q t h => ?_⟩
        · rw [unq_c _ _ h1 h2]
          cases hs : scanQ s with
          | none => exact i1 hs
          | some p => rw [hs] at h; cases h
        · cases hs : scanQ s with
          | none => rw [hs] at h; cases h
          | some p =>
            obtain ⟨q', t'⟩ := p
            rw [hs] at h
            cases h
            obtain ⟨e1, e2⟩ := i2 _ _ hs
            refine ⟨by simp [← e1], fun u => ?_⟩
            show unq acc (c :: (q' ++ u)) = (unq acc (c :: q')).map _
            rw [unq_c _ _ h1 h2, unq_c _ _ h1 h2, e2]
/-- the text in quotes that a text begins with, and what stands behind it; ahead of all, if there is none. -/
def cutQ (s : Tx) : Tx × Tx :=
  match s with
  | 34 :: r => (match scanQ r with
    | none => ([], s)
    | some (q, t) => (34 :: q, t))
  | _ => ([], s)
theorem cutQ_eq (s : Tx) : s = (cutQ s).1 ++ (cutQ s).2 := by
  unfold cutQ
  split
  · rename_i r
    cases h : scanQ r with
    | none => rfl
    | some p =>
      obtain ⟨q, t⟩ := p
      have := ((scan_unq r.length r [] (Nat.le_refl _)).2 q t h).1
      rw [this]
      rfl
  · rfl
def around (q : Tx) : Tx := [123, 118, 97, 108, 117, 101, 61] ++ (q ++ [125])
/-- what layer 7 makes of a value's text. -/
theorem parse_around {r q t : Tx} (h : scanQ r = some (q, t)) : parseP (around (34 :: q)) = match unq [] q with
    | none => none
    | some (v, _) => if mayV v then some ([([118, 97, 108, 117, 101], v)], []) else none := by
  have hu := ((scan_unq r.length r [] (Nat.le_refl _)).2 q t h).2 [125]
  show parseP (123 :: 118 :: ([97, 108, 117, 101] ++ 61 :: (34 :: q ++ [125]))) = _
  rw [parse_cons, if_neg (by decide), goP]
  have hc : cutE (118 :: ([97, 108, 117, 101] ++ 61 :: (34 :: q ++ [125]))) = some ([118, 97, 108, 117, 101], 34 :: q ++ [125]) := cutE_at [118, 97, 108, 117, 101] (34 :: q ++ [125]) (by decide)
  have ht : takeL (118 :: ([97, 108, 117, 101] ++ 61 :: (34 :: q ++ [125]))) = match unq [] q with
      | none => none
      | some (v, _) => some (([118, 97, 108, 117, 101], v), [125]) := by
    unfold takeL
    rw [hc]
    simp only
    have : takeV (34 :: q ++ [125]) = unq [] (q ++ [125]) := by
      show takeV (34 :: (q ++ [125])) = _
      rw [takeV, if_pos rfl]
    rw [this, hu]
    cases unq [] q <;> rfl
  rw [ht]
  cases unq [] q with
  | none => rfl
  | some p =>
    obtain ⟨v, e⟩ := p
    simp only
    have hm : mayL ([] ++ [([118, 97, 108, 117, 101], v)]) = mayV v := by
      cases hv : mayV v
      · cases h2 : mayL ([] ++ [([118, 97, 108, 117, 101], v)])
        · rfl
        · have := (mayL_mem h2 (x := ([118, 97, 108, 117, 101], v)) (by simp)).2
          simp only at this
          rw [hv] at this
          cases this
      · rw [mayL_iff]
        refine ⟨by simp, fun x hx => ?_, fun i x y hx hy => ?_⟩
        · simp at hx
          subst hx
          unfold mayE
          simp only [hv]
          decide
        · simp at hy
    rw [hm]
    cases mayV v <;> simp
theorem parse_around0 : parseP (around []) = none := by decide
/-- what the program makes of a value's text is what the chapter does. -/
theorem takeW_cut (s : Tx) : (cutQ s).1 = [34, 34] ∧ takeW s = some ([], (cutQ s).2) ∨ (cutQ s).1 ≠ [34, 34] ∧
    ((parseP (around (cutQ s).1) = none ∧ takeW s = none) ∨ ∃ v, parseP (around (cutQ s).1) = some ([([118, 97, 108, 117, 101], v)], []) ∧ takeW s = some (v, (cutQ s).2)) := by
  unfold cutQ
  split
  · rename_i r
    have hv : takeV (34 :: r) = unq [] r := by rw [takeV, if_pos rfl]
    cases h : scanQ r with
    | none =>
      refine .inr ⟨by simp, .inl ⟨parse_around0, ?_⟩⟩
      unfold takeW
      rw [hv, (scan_unq r.length r [] (Nat.le_refl _)).1 h]
    | some p =>
      obtain ⟨q, t⟩ := p
      obtain ⟨e1, e2⟩ := (scan_unq r.length r [] (Nat.le_refl _)).2 q t h
      have hw : takeW (34 :: r) = match unq [] q with
          | none => none
          | some (v, _) => if mayV0 v then some (v, t) else none := by
        unfold takeW
        rw [hv, e1, e2 t]
        cases unq [] q <;> rfl
      have hpa := parse_around h
      simp only
      rw [hw, hpa]
      by_cases hq : q = [34]
      · subst hq
        refine .inl ⟨rfl, ?_⟩
        rw [unq_q]
        rfl
      · refine .inr ⟨by simpa using hq, ?_⟩
        cases hu : unq [] q with
        | none => exact .inl ⟨rfl, rfl⟩
        | some p =>
          obtain ⟨v, e⟩ := p
          simp only
          have hv0 : v ≠ [] := by
            rintro rfl
            have h3 := e2 []
            rw [List.append_nil, hu] at h3
            cases h3
            obtain ⟨u, e4, e5⟩ := unq_inv q.length q [] [] [] (Nat.le_refl _) hu
            simp at e4
            subst e4
            exact hq e5
          have hm : mayV0 v = mayV v := by
            rw [mayV0_or]
            cases v with
            | nil => exact absurd rfl hv0
            | cons c v => rfl
          rw [hm]
          cases mayV v with
          | false => exact .inl ⟨by simp, by simp⟩
          | true => exact .inr ⟨v, by simp, by simp⟩
  · rename_i hn
    refine .inr ⟨by simp, .inl ⟨parse_around0, ?_⟩⟩
    unfold takeW
    have : takeV s = none := by
      cases s with
      | nil => rfl
      | cons c r =>
        rw [takeV, if_neg (fun e => hn r (by rw [e]))]
    rw [this]
/-- whether they hold. -/
theorem does_app (a b : List Mt) (l : List Lb) : doesM (a ++ b) l = (doesM a l && doesM b l) := by
  unfold doesM
  rw [List.all_append]
theorem does_rev (a : List Mt) (l : List Lb) : doesM a.reverse l = doesM a l := by
  unfold doesM
  rw [List.all_reverse]
theorem does_nil (l : List Lb) : doesM [] l = true := rfl
theorem pre_self (a : Tx) : Lib.hasPrefix a a = true := by
  induction a with
  | nil => simp [Lib.hasPrefix]
  | cons c a ih => simp [Lib.hasPrefix]
theorem pre_empty (a : Tx) : Lib.hasPrefix a [] = true := by cases a <;> simp [Lib.hasPrefix]
theorem value_at : ∀ (l : List Lb) (i : Nat) (x : Lb), l[i]? = some x → (∀ k y, k < i → l[k]? = some y → y.1 ≠ x.1) → valueL l x.1 = x.2
  | [], _, _, h, _ => by simp at h
  | z :: l, 0, x, h, _ => by
    simp at h
    subst h
    simp [valueL]
  | z :: l, i + 1, x, h, hn => by
    have hz : z.1 ≠ x.1 := hn 0 z (by omega) rfl
    have := value_at l i x (by simpa using h) (fun k y hk hy => hn (k + 1) y (by omega) (by simpa using hy))
    simpa [valueL, hz] using this
end Go.Proofs.Ythbdghbfhjimkaa
