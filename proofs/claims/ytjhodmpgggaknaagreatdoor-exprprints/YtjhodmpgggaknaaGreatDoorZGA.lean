/- Joined: P P2 K. -/
import Derived.Lib.Bytealg
import Derived.Lib.Join
/- Plain mathematics of labels: names and values that may be, their text, what is read of a text, one row less than another. No program in it. -/
namespace Go.Proofs.YtjhodmpgggaknaaGreatDoor

abbrev Tx := List UInt8
abbrev Lb := Tx × Tx
def low (c : UInt8) : Bool := decide (97 ≤ c.toNat) && decide (c.toNat ≤ 122)
def nmc (c : UInt8) : Bool := low c || (decide (48 ≤ c.toNat) && decide (c.toNat ≤ 57)) || c.toNat == 95
def vlc (c : UInt8) : Bool := decide (32 ≤ c.toNat) && decide (c.toNat ≤ 126)
def spc (c : UInt8) : Bool := c.toNat == 34 || c.toNat == 92
def mayB (most : Nat) (f : UInt8 → Bool) (s : Tx) : Bool := !s.isEmpty && decide (s.length ≤ most) && s.all f
def mayN (s : Tx) : Bool := mayB 16 nmc s && low (s.headD 0)
def mayV (s : Tx) : Bool := mayB 32 vlc s
def mayE (x : Lb) : Bool := mayN x.1 && mayV x.2
def rises : List Lb → Bool
  | [] => true
  | [_] => true
  | x :: y :: r => decide (x.1 < y.1) && rises (y :: r)
def mayL (l : List Lb) : Bool := decide (l.length ≤ 4) && l.all mayE && rises l
theorem mayB_iff {most : Nat} {f : UInt8 → Bool} {s : Tx} : mayB most f s = true ↔ s ≠ [] ∧ s.length ≤ most ∧ ∀ c ∈ s, f c = true := by
  unfold mayB
  simp [and_assoc]
theorem mayN_len {s : Tx} (h : mayN s = true) : s.length ≤ 16 := by
  unfold mayN at h
  rw [Bool.and_eq_true] at h
  exact (mayB_iff.1 h.1).2.1
theorem mayN_head {c : UInt8} {s : Tx} (h : mayN (c :: s) = true) : low c = true := by
  unfold mayN at h
  rw [Bool.and_eq_true] at h
  exact h.2

/-- quotes. -/
def esc1 (c : UInt8) : Tx := if spc c then [92, c] else [c]
def esc (v : Tx) : Tx := v.flatMap esc1
def quote (v : Tx) : Tx := 34 :: (esc v ++ [34])
def item (x : Lb) : Tx := x.1 ++ 61 :: quote x.2
def printL (l : List Lb) : Tx := 123 :: (Lib.join (l.map item) [44] ++ [125])
theorem esc_cons (c : UInt8) (v : Tx) : esc (c :: v) = esc1 c ++ esc v := rfl
theorem esc_app (u v : Tx) : esc (u ++ v) = esc u ++ esc v := by simp [esc]
theorem esc_len (v : Tx) : (esc v).length ≤ 2 * v.length := by
  induction v with
  | nil => simp [esc]
  | cons c v ih =>
    rw [esc_cons, List.length_append, List.length_cons]
    have : (esc1 c).length ≤ 2 := by unfold esc1; split <;> simp
    omega
theorem quote_len (v : Tx) : (quote v).length ≤ 2 * v.length + 2 := by
  have := esc_len v
  unfold quote
  simp; omega
def unq (acc : Tx) : Tx → Option (Tx × Tx)
  | [] => none
  | [c] => if c = 34 then some (acc, []) else none
  | c :: d :: t => if c = 34 then some (acc, d :: t) else if c = 92 then (if spc d then unq (acc ++ [d]) t else none) else unq (acc ++ [c]) (d :: t)
theorem unq_nil (acc : Tx) : unq acc [] = none := by rw [unq]
theorem unq_q (acc t : Tx) : unq acc (34 :: t) = some (acc, t) := by
  cases t <;> simp [unq]
theorem unq_b0 (acc : Tx) : unq acc [92] = none := by simp [unq]
theorem unq_b (acc : Tx) {d : UInt8} (t : Tx) (h : spc d = true) : unq acc (92 :: d :: t) = unq (acc ++ [d]) t := by simp [unq, h]
theorem unq_bad (acc : Tx) {d : UInt8} (t : Tx) (h : spc d = false) : unq acc (92 :: d :: t) = none := by simp [unq, h]
theorem unq_c (acc : Tx) {c : UInt8} (t : Tx) (h1 : c ≠ 34) (h2 : c ≠ 92) : unq acc (c :: t) = unq (acc ++ [c]) t := by
  cases t with
  | nil => simp [unq, h1]
  | cons d t => simp [unq, h1, h2]
theorem spc_ne {c : UInt8} (h : spc c = false) : c ≠ 34 ∧ c ≠ 92 := by
  constructor <;> (rintro rfl; exact absurd h (by decide))
theorem spc_or {c : UInt8} (h : spc c = true) : c = 34 ∨ c = 92 := by
  unfold spc at h
  rw [Bool.or_eq_true, beq_iff_eq, beq_iff_eq] at h
  rcases h with h | h
  · exact .inl (UInt8.toNat_inj.1 h)
  · exact .inr (UInt8.toNat_inj.1 h)
theorem unq_esc : ∀ (v acc t : Tx), unq acc (esc v ++ 34 :: t) = some (acc ++ v, t)
  | [], acc, t => by simp [esc, unq_q]
  | c :: v, acc, t => by
    rw [esc_cons]
    unfold esc1
    cases h : spc c
    · rw [if_neg (by simp)]
      show unq acc (c :: (esc v ++ 34 :: t)) = _
      rw [unq_c acc _ (spc_ne h).1 (spc_ne h).2, unq_esc v (acc ++ [c]) t]
      simp
    · rw [if_pos rfl]
      show unq acc (92 :: c :: (esc v ++ 34 :: t)) = _
      rw [unq_b acc _ h, unq_esc v (acc ++ [c]) t]
      simp
theorem unq_inv : ∀ (n : Nat) (s acc v t : Tx), s.length ≤ n → unq acc s = some (v, t) → ∃ u, v = acc ++ u ∧ s = esc u ++ 34 :: t
  | _, [], acc, v, t, _, h => by rw [unq_nil] at h; cases h
  | 0, c :: s, _, _, _, hn, _ => by simp at hn
  | n + 1, c :: s, acc, v, t, hn, h => by
    simp at hn
    by_cases h1 : c = 34
    · subst h1
      rw [unq_q] at h
      cases h
      exact ⟨[], by simp, by simp [esc]⟩
    · by_cases h2 : c = 92
      · subst h2
        cases s with
        | nil => rw [unq_b0] at h; cases h
        | cons d s =>
          cases hd : spc d
          · rw [unq_bad acc s hd] at h; cases h
          · rw [unq_b acc s hd] at h
            simp at hn
            obtain ⟨u, e1, e2⟩ := unq_inv n s _ v t (by omega) h
            refine ⟨d :: u, by rw [e1]; simp, ?_⟩
            rw [esc_cons, e2]
            simp [esc1, hd]
      · rw [unq_c acc s h1 h2] at h
        obtain ⟨u, e1, e2⟩ := unq_inv n s _ v t (by omega) h
        refine ⟨c :: u, by rw [e1]; simp, ?_⟩
        have hs : spc c = false := by
          cases hc : spc c
          · rfl
          · rcases spc_or hc with e | e
            · exact absurd e h1
            · exact absurd e h2
        rw [esc_cons, e2]
        simp [esc1, hs]
def takeV : Tx → Option (Tx × Tx)
  | [] => none
  | c :: t => if c = 34 then unq [] t else none
theorem takeV_inv {s v t : Tx} (h : takeV s = some (v, t)) : s = quote v ++ t := by
  cases s with
  | nil => cases h
  | cons c s =>
    rw [takeV] at h
    split at h
    · rename_i hc
      subst hc
      obtain ⟨u, e1, e2⟩ := unq_inv s.length s [] v t (Nat.le_refl _) h
      rw [e2, e1]
      simp [quote]
    · cases h
/-- what stands ahead of the first =, and behind it. -/
def cutE : Tx → Option (Tx × Tx)
  | [] => none
  | c :: t => if c = 61 then some ([], t) else (cutE t).map fun p => (c :: p.1, p.2)
theorem cutE_inv : ∀ (s : Tx) {n r : Tx}, cutE s = some (n, r) → s = n ++ 61 :: r ∧ (61 : UInt8) ∉ n
  | [], _, _, h => by cases h
  | c :: t, n, r, h => by
    rw [cutE] at h
    split at h
    · rename_i hc; cases h; subst hc; exact ⟨rfl, by simp⟩
    · rename_i hc
      cases hx : cutE t with
      | none => rw [hx] at h; cases h
      | some p =>
        rw [hx] at h
        cases h
        obtain ⟨e1, e2⟩ := cutE_inv t hx
        refine ⟨by rw [List.cons_append, ← e1], fun hm => ?_⟩
        rcases List.mem_cons.1 hm with e | e
        · exact hc e.symm
        · exact e2 e
def takeL (s : Tx) : Option (Lb × Tx) :=
  match cutE s with
  | none => none
  | some (n, r) => match takeV r with
    | none => none
    | some (v, t) => some ((n, v), t)
theorem takeL_inv {s : Tx} {x : Lb} {t : Tx} (h : takeL s = some (x, t)) : s = item x ++ t ∧ (61 : UInt8) ∉ x.1 := by
  unfold takeL at h
  cases hc : cutE s with
  | none => rw [hc] at h; cases h
  | some p =>
    obtain ⟨n, r⟩ := p
    rw [hc] at h
    simp only at h
    cases hv : takeV r with
    | none => rw [hv] at h; cases h
    | some q =>
      obtain ⟨v, u⟩ := q
      rw [hv] at h
      cases h
      obtain ⟨e1, e2⟩ := cutE_inv s hc
      refine ⟨?_, e2⟩
      rw [e1, takeV_inv hv]
      simp [item]
theorem item_len (x : Lb) : x.1.length + x.2.length + 3 ≤ (item x).length ∧ (item x).length ≤ x.1.length + 2 * x.2.length + 3 := by
  have h1 := quote_len x.2
  have h2 : x.2.length ≤ (esc x.2).length := by
    generalize x.2 = v
    induction v with
    | nil => simp
    | cons c v ih =>
      rw [esc_cons, List.length_append, List.length_cons]
      have : 1 ≤ (esc1 c).length := by unfold esc1; split <;> simp
      omega
  unfold item quote at *
  simp at h1 ⊢
  omega
/-- label by label. -/
def goP : Nat → List Lb → Tx → Option (List Lb × Tx)
  | 0, _, _ => none
  | f + 1, l, s => match takeL s with
    | none => none
    | some (_, []) => none
    | some (x, c :: t) => if mayL (l ++ [x]) then (if c = 44 then goP f (l ++ [x]) t else if c = 125 then some (l ++ [x], t) else none) else none
def parseP (s : Tx) : Option (List Lb × Tx) :=
  match s with
  | [] => none
  | c :: r => if c = 123 then (match r with
    | [] => goP 1 [] []
    | d :: t => if d = 125 then some ([], t) else goP (t.length + 2) [] (d :: t)) else none
theorem goP_nil (f : Nat) (l : List Lb) : goP f l [] = none := by
  cases f <;> rfl
theorem parse_cons (d : UInt8) (t : Tx) : parseP (123 :: d :: t) = if d = 125 then some ([], t) else goP (t.length + 2) [] (d :: t) := by simp [parseP]
theorem parse_one : parseP [123] = none := by simp [parseP, goP_nil]
theorem parse_no {c : UInt8} (r : Tx) (h : c ≠ 123) : parseP (c :: r) = none := by simp [parseP, h]
theorem join2 (x : Tx) (m : List Tx) (h : m ≠ []) (sep : UInt8) : Lib.join (x :: m) [sep] = x ++ sep :: Lib.join m [sep] := by
  cases m with
  | nil => exact absurd rfl h
  | cons y m => simp [Lib.join_cons, Lib.joinTail]
theorem goP_inv : ∀ (f : Nat) (l : List Lb) (s : Tx) (r : List Lb) (t : Tx), goP f l s = some (r, t) → mayL r = true ∧ ∃ m, m ≠ [] ∧ r = l ++ m ∧ s = Lib.join (m.map item) [44] ++ 125 :: t
  | 0, _, _, _, _, h => by cases h
  | f + 1, l, s, r, t, h => by
    rw [goP] at h
    cases hx : takeL s with
    | none => rw [hx] at h; cases h
    | some p =>
      obtain ⟨x, u⟩ := p
      rw [hx] at h
      cases u with
      | nil => cases h
      | cons c u =>
        simp only at h
        have hs := (takeL_inv hx).1
        split at h
        · rename_i hm
          split at h
          · rename_i hc
            subst hc
            obtain ⟨h1, m, h2, h3, h4⟩ := goP_inv f _ _ _ _ h
            refine ⟨h1, x :: m, by simp, by rw [h3]; simp, ?_⟩
            rw [hs, h4, List.map_cons, join2 _ _ (by simpa using h2)]
            simp
          · split at h
            · rename_i hc
              subst hc
              cases h
              exact ⟨hm, [x], by simp, rfl, by rw [hs, List.map_singleton, Lib.join_one]⟩
            · cases h
        · cases h
theorem parse_inv {s : Tx} {l : List Lb} {t : Tx} (h : parseP s = some (l, t)) : mayL l = true ∧ s = printL l ++ t := by
  cases s with
  | nil => cases h
  | cons c r =>
    by_cases hc : c = 123
    · subst hc
      cases r with
      | nil => rw [parse_one] at h; cases h
      | cons d u =>
        rw [parse_cons] at h
        split at h
        · rename_i hd
          subst hd
          cases h
          exact ⟨by decide, rfl⟩
        · obtain ⟨h1, m, h2, h3, h4⟩ := goP_inv _ _ _ _ _ h
          refine ⟨h1, ?_⟩
          rw [h4, h3]
          simp [printL]
    · rw [parse_no r hc] at h; cases h
end Go.Proofs.YtjhodmpgggaknaaGreatDoor
/- Plain mathematics of labels: the order of texts, of labels, of rows; a value by its name. No program in it. -/
namespace Go.Proofs.YtjhodmpgggaknaaGreatDoor

/-- below 0: less; 0: the same. -/
structure Ord3 {α : Type} (c : α → α → Int) : Prop where
  swap : ∀ x y, c y x = - c x y
  zero : ∀ x y, c x y = 0 → x = y
  trans : ∀ x y z, c x y < 0 → c y z < 0 → c x z < 0
theorem Ord3.refl {α : Type} {c : α → α → Int} (h : Ord3 c) (x : α) : c x x = 0 := by have := h.swap x x; omega
def cb (a b : Tx) : Int := Lib.compareBytes a b
end Go.Proofs.YtjhodmpgggaknaaGreatDoor
/- Plain mathematics of matchers: which may be, their text, what is read of a text, whether they hold. No program in it. -/
namespace Go.Proofs.YtjhodmpgggaknaaGreatDoor.Mat

abbrev Mt := Tx × UInt8 × Tx
def sgn (c : UInt8) : Bool := c.toNat == 61 || c.toNat == 33 || c.toNat == 94
def opS (o : UInt8) : Tx := if o = 1 then [33, 61] else if o = 2 then [94, 61] else [61]
def mayV0 (s : Tx) : Bool := decide (s.length ≤ 32) && s.all vlc
def mayM1 (x : Mt) : Bool := decide (x.2.1.toNat ≤ 2) && mayN x.1 && mayV0 x.2.2
def mayM (m : List Mt) : Bool := decide (m.length ≤ 6) && m.all mayM1
def itemM (x : Mt) : Tx := x.1 ++ (opS x.2.1 ++ quote x.2.2)
def printM (m : List Mt) : Tx := 123 :: (Lib.join (m.map itemM) [44] ++ [125])
def asks (o : UInt8) (has wants : Tx) : Bool := if o = 0 then has == wants else if o = 1 then has != wants else if o = 2 then Lib.hasPrefix has wants else false
theorem mayV0_or (v : Tx) : mayV0 v = (v.isEmpty || mayV v) := by
  unfold mayV0 mayV mayB
  cases v with
  | nil => rfl
  | cons c t => simp
theorem mayM_iff {m : List Mt} : mayM m = true ↔ m.length ≤ 6 ∧ ∀ x ∈ m, mayM1 x = true := by
  unfold mayM
  rw [Bool.and_eq_true, decide_eq_true_iff, List.all_eq_true]
theorem mayM1_iff {x : Mt} : mayM1 x = true ↔ x.2.1.toNat ≤ 2 ∧ mayN x.1 = true ∧ mayV0 x.2.2 = true := by
  unfold mayM1
  rw [Bool.and_eq_true, Bool.and_eq_true, decide_eq_true_iff, and_assoc]
theorem mayM_len {l : List Mt} (h : mayM l = true) : l.length ≤ 6 := (mayM_iff.1 h).1
theorem mayM_mem {m : List Mt} (h : mayM m = true) {x : Mt} (hx : x ∈ m) : x.2.1.toNat ≤ 2 ∧ mayN x.1 = true ∧ mayV0 x.2.2 = true := mayM1_iff.1 ((mayM_iff.1 h).2 x hx)
theorem mayV0_len {s : Tx} (h : mayV0 s = true) : s.length ≤ 32 := by
  unfold mayV0 at h
  rw [Bool.and_eq_true, decide_eq_true_iff] at h
  exact h.1
theorem mayN_all {s : Tx} (h : mayN s = true) : ∀ c ∈ s, nmc c = true := by
  unfold mayN at h
  rw [Bool.and_eq_true] at h
  exact (mayB_iff.1 h.1).2.2
theorem op_cases {o : UInt8} (h : o.toNat ≤ 2) : o = 0 ∨ o = 1 ∨ o = 2 := by
  rcases (by omega : o.toNat = 0 ∨ o.toNat = 1 ∨ o.toNat = 2) with e | e | e
  · exact .inl (UInt8.toNat_inj.1 e)
  · exact .inr (.inl (UInt8.toNat_inj.1 e))
  · exact .inr (.inr (UInt8.toNat_inj.1 e))
theorem opS_len (o : UInt8) : 1 ≤ (opS o).length ∧ (opS o).length ≤ 2 := by
  unfold opS
  split
  · simp
  · split <;> simp
theorem itemM_len (x : Mt) : x.1.length + x.2.2.length + 3 ≤ (itemM x).length ∧ (itemM x).length ≤ x.1.length + 2 * x.2.2.length + 4 := by
  obtain ⟨n, o, v⟩ := x
  have h1 := opS_len o
  have h2 := (item_len ([], v)).1
  have h3 := quote_len v
  unfold item at h2
  unfold itemM
  simp at h2 ⊢
  omega
end Go.Proofs.YtjhodmpgggaknaaGreatDoor.Mat
