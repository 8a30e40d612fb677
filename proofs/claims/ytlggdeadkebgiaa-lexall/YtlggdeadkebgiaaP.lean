/- Plain mathematics of labels: names and values that may be, their text, what is read of a text, one row less than another. No program in it. -/
import Derived.Lib.Bytealg
import Derived.Lib.Join
namespace Go.Proofs.Ytlggdeadkebgiaa

abbrev Tx := List UInt8
abbrev Lb := Tx × Tx
def low (c : UInt8) : Bool := decide (97 ≤ c.toNat) && decide (c.toNat ≤ 122)
def nmc (c : UInt8) : Bool := low c || (decide (48 ≤ c.toNat) && decide (c.toNat ≤ 57)) || c.toNat == 95
def vlc (c : UInt8) : Bool := decide (32 ≤ c.toNat) && decide (c.toNat ≤ 126)
def spc (c : UInt8) : Bool := c.toNat == 34 || c.toNat == 92
def mayB (most : Nat) (f : UInt8 → Bool) (s : Tx) : Bool := !s.isEmpty && decide (s.length ≤ most) && s.all f
def mayN (s : Tx) : Bool := mayB 16 nmc s && low (s.headD 0)
def mayV (s : Tx) : Bool := mayB 32 vlc s
def mayE (x : Lb) : Bool := mayN x.1 && mayV x.2
def rises : List Lb → Bool
  | [] => true
  | [_] => true
  | x :: y :: r => decide (x.1 < y.1) && rises (y :: r)
def mayL (l : List Lb) : Bool := decide (l.length ≤ 4) && l.all mayE && rises l
theorem mayB_iff {most : Nat} {f : UInt8 → Bool} {s : Tx} : mayB most f s = true ↔ s ≠ [] ∧ s.length ≤ most ∧ ∀ c ∈ s, f c = true := by
  unfold mayB
  simp [and_assoc]
theorem rises_iff : ∀ (l : List Lb), rises l = true ↔ ∀ i x y, l[i]? = some x → l[i + 1]? = some y → x.1 < y.1
  | [] => by simp [rises]
  | [z] => by
    simp only [rises, true_iff]
    intro i x y h1 h2
    simp at h2
  | x :: y :: r => by
    rw [rises, Bool.and_eq_true, decide_eq_true_iff, rises_iff (y :: r)]
    constructor
    · rintro ⟨h, h2⟩ i a b ha hb
      cases i with
      | zero => simp at ha hb; subst ha hb; exact h
      | succ i => exact h2 i a b (by simpa using ha) (by simpa using hb)
    · intro h
      exact ⟨h 0 x y rfl rfl, fun i a b ha hb => h (i + 1) a b (by simpa using ha) (by simpa using hb)⟩
theorem mayL_iff {l : List Lb} : mayL l = true ↔ l.length ≤ 4 ∧ (∀ x ∈ l, mayE x = true) ∧ ∀ i x y, l[i]? = some x → l[i + 1]? = some y → x.1 < y.1 := by
  unfold mayL
  rw [Bool.and_eq_true, Bool.and_eq_true, decide_eq_true_iff, List.all_eq_true, rises_iff, and_assoc]
theorem mayL_part {l : List Lb} (h : mayL l = true) (i j : Nat) : mayL ((l.drop i).take j) = true := by
  rw [mayL_iff] at h ⊢
  obtain ⟨h1, h2, h3⟩ := h
  refine ⟨by simp; omega, fun x hx => h2 x (List.mem_of_mem_drop (List.mem_of_mem_take hx)), fun k x y hx hy => ?_⟩
  have hk : k + 1 < j := by
    have := (List.getElem?_eq_some_iff.1 hy).1
    simp at this; omega
  rw [List.getElem?_take_of_lt (by omega), List.getElem?_drop] at hx hy
  exact h3 (i + k) x y hx (by rw [← hy]; congr 1)
theorem mayL_left {l m : List Lb} (h : mayL (l ++ m) = true) : mayL l = true := by
  have := mayL_part h 0 l.length
  simpa using this
theorem mayL_no {l : List Lb} (m : List Lb) (h : mayL l = false) : mayL (l ++ m) = false := by
  cases h2 : mayL (l ++ m)
  · rfl
  · rw [mayL_left h2] at h; cases h
theorem mayL_len {l : List Lb} (h : mayL l = true) : l.length ≤ 4 := (mayL_iff.1 h).1
theorem mayL_mem {l : List Lb} (h : mayL l = true) {x : Lb} (hx : x ∈ l) : mayN x.1 = true ∧ mayV x.2 = true := by
  have := (mayL_iff.1 h).2.1 x hx
  unfold mayE at this
  simpa using this
theorem mayN_len {s : Tx} (h : mayN s = true) : s.length ≤ 16 := by
  unfold mayN at h
  rw [Bool.and_eq_true] at h
  exact (mayB_iff.1 h.1).2.1
theorem mayV_len {s : Tx} (h : mayV s = true) : s.length ≤ 32 ∧ s ≠ [] := ⟨(mayB_iff.1 h).2.1, (mayB_iff.1 h).1⟩
theorem mayN_no61 {s : Tx} (h : mayN s = true) : (61 : UInt8) ∉ s := fun hm => by
  unfold mayN at h
  rw [Bool.and_eq_true] at h
  have := (mayB_iff.1 h.1).2.2 61 hm
  exact absurd this (by decide)
theorem mayN_head {c : UInt8} {s : Tx} (h : mayN (c :: s) = true) : low c = true := by
  unfold mayN at h
  rw [Bool.and_eq_true] at h
  exact h.2

/-- quotes. -/
def esc1 (c : UInt8) : Tx := if spc c then [92, c] else [c]
def esc (v : Tx) : Tx := v.flatMap esc1
def quote (v : Tx) : Tx := 34 :: (esc v ++ [34])
def item (x : Lb) : Tx := x.1 ++ 61 :: quote x.2
def printL (l : List Lb) : Tx := 123 :: (Lib.join (l.map item) [44] ++ [125])
theorem esc_cons (c : UInt8) (v : Tx) : esc (c :: v) = esc1 c ++ esc v := rfl
theorem esc_app (u v : Tx) : esc (u ++ v) = esc u ++ esc v := by simp [esc]
theorem esc_len (v : Tx) : (esc v).length ≤ 2 * v.length := by
  induction v with
  | nil => simp [esc]
  | cons c v ih =>
    rw [esc_cons, List.length_append, List.length_cons]
    have : (esc1 c).length ≤ 2 := by unfold esc1; split <;> simp
    omega
theorem quote_len (v : Tx) : (quote v).length ≤ 2 * v.length + 2 := by
  have := esc_len v
  unfold quote
  simp; omega
def unq (acc : Tx) : Tx → Option (Tx × Tx)
  | [] => none
  | [c] => if c = 34 then some (acc, []) else none
  | c :: d :: t => if c = 34 then some (acc, d :: t) else if c = 92 then (if spc d then unq (acc ++ [d]) t else none) else unq (acc ++ [c]) (d :: t)
theorem unq_nil (acc : Tx) : unq acc [] = none := by rw [unq]
theorem unq_q (acc t : Tx) : unq acc (34 :: t) = some (acc, t) := by
  cases t <;> simp [unq]
theorem unq_b0 (acc : Tx) : unq acc [92] = none := by simp [unq]
theorem unq_b (acc : Tx) {d : UInt8} (t : Tx) (h : spc d = true) : unq acc (92 :: d :: t) = unq (acc ++ [d]) t := by simp [unq, h]
theorem unq_bad (acc : Tx) {d : UInt8} (t : Tx) (h : spc d = false) : unq acc (92 :: d :: t) = none := by simp [unq, h]
theorem unq_c (acc : Tx) {c : UInt8} (t : Tx) (h1 : c ≠ 34) (h2 : c ≠ 92) : unq acc (c :: t) = unq (acc ++ [c]) t := by
  cases t with
  | nil => simp [unq, h1]
  | cons d t => simp [unq, h1, h2]
theorem spc_ne {c : UInt8} (h : spc c = false) : c ≠ 34 ∧ c ≠ 92 := by
  constructor <;> (rintro rfl; exact absurd h (by decide))
theorem spc_or {c : UInt8} (h : spc c = true) : c = 34 ∨ c = 92 := by
  unfold spc at h
  rw [Bool.or_eq_true, beq_iff_eq, beq_iff_eq] at h
  rcases h with h | h
  · exact .inl (UInt8.toNat_inj.1 h)
  · exact .inr (UInt8.toNat_inj.1 h)
theorem unq_esc : ∀ (v acc t : Tx), unq acc (esc v ++ 34 :: t) = some (acc ++ v, t)
  | [], acc, t => by simp [esc, unq_q]
  | c :: v, acc, t => by
    rw [esc_cons]
    unfold esc1
    cases h : spc c
    · rw [if_neg (by simp)]
      show unq acc (c :: (esc v ++ 34 :: t)) = _
      rw [unq_c acc _ (spc_ne h).1 (spc_ne h).2, unq_esc v (acc ++ [c]) t]
      simp
    · rw [if_pos rfl]
      show unq acc (92 :: c :: (esc v ++ 34 :: t)) = _
      rw [unq_b acc _ h, unq_esc v (acc ++ [c]) t]
      simp
theorem unq_inv : ∀ (n : Nat) (s acc v t : Tx), s.length ≤ n → unq acc s = some (v, t) → ∃ u, v = acc ++ u ∧ s = esc u ++ 34 :: t
  | _, [], acc, v, t, _, h => by rw [unq_nil] at h; cases h
  | 0, c :: s, _, _, _, hn, _ => by simp at hn
  | n + 1, c :: s, acc, v, t, hn, h => by
    simp at hn
    by_cases h1 : c = 34
    · subst h1
      rw [unq_q] at h
      cases h
      exact ⟨[], by simp, by simp [esc]⟩
    · by_cases h2 : c = 92
      · subst h2
        cases s with
        | nil => rw [unq_b0] at h; cases h
        | cons d s =>
          cases hd : spc d
          · rw [unq_bad acc s hd] at h; cases h
          · rw [unq_b acc s hd] at h
            simp at hn
            obtain ⟨u, e1, e2⟩ := unq_inv n s _ v t (by omega) h
            refine ⟨d :: u, by rw [e1]; simp, ?_⟩
            rw [esc_cons, e2]
            simp [esc1, hd]
      · rw [unq_c acc s h1 h2] at h
        obtain ⟨u, e1, e2⟩ := unq_inv n s _ v t (by omega) h
        refine ⟨c :: u, by rw [e1]; simp, ?_⟩
        have hs : spc c = false := by
          cases hc : spc c
          · rfl
          · rcases spc_or hc with e | e
            · exact absurd e h1
            · exact absurd e h2
        rw [esc_cons, e2]
        simp [esc1, hs]
def takeV : Tx → Option (Tx × Tx)
  | [] => none
  | c :: t => if c = 34 then unq [] t else none
theorem takeV_quote (v t : Tx) : takeV (quote v ++ t) = some (v, t) := by
  show takeV (34 :: (esc v ++ [34] ++ t)) = _
  rw [takeV, if_pos rfl, List.append_assoc]
  exact unq_esc v [] t
theorem takeV_inv {s v t : Tx} (h : takeV s = some (v, t)) : s = quote v ++ t := by
  cases s with
  | nil => cases h
  | cons c s =>
    rw [takeV] at h
    split at h
    · rename_i hc
      subst hc
      obtain ⟨u, e1, e2⟩ := unq_inv s.length s [] v t (Nat.le_refl _) h
      rw [e2, e1]
      simp [quote]
    · cases h
/-- what stands ahead of the first =, and behind it. -/
def cutE : Tx → Option (Tx × Tx)
  | [] => none
  | c :: t => if c = 61 then some ([], t) else (cutE t).map fun p => (c :: p.1, p.2)
theorem cutE_at : ∀ (n r : Tx), (61 : UInt8) ∉ n → cutE (n ++ 61 :: r) = some (n, r)
  | [], r, _ => by simp [cutE]
  | c :: n, r, h => by
    have hc : c ≠ 61 := fun e => h (by rw [e]; exact List.mem_cons_self)
    rw [List.cons_append, cutE, if_neg hc, cutE_at n r (fun hm => h (List.mem_cons_of_mem _ hm))]
    rfl
theorem cutE_inv : ∀ (s : Tx) {n r : Tx}, cutE s = some (n, r) → s = n ++ 61 :: r ∧ (61 : UInt8) ∉ n
  | [], _, _, h => by cases h
  | c :: t, n, r, h => by
    rw [cutE] at h
    split at h
    · rename_i hc; cases h; subst hc; exact ⟨rfl, by simp⟩
    · rename_i hc
      cases hx : cutE t with
      | none => rw [hx] at h; cases h
      | some p =>
        rw [hx] at h
        cases h
        obtain ⟨e1, e2⟩ := cutE_inv t hx
        refine ⟨by rw [List.cons_append, ← e1], fun hm => ?_⟩
        rcases List.mem_cons.1 hm with e | e
        · exact hc e.symm
        · exact e2 e
theorem cutE_none : ∀ (s : Tx), (61 : UInt8) ∉ s → cutE s = none
  | [], _ => rfl
  | c :: t, h => by
    rw [cutE, if_neg (fun e => h (by rw [e]; exact List.mem_cons_self)), cutE_none t (fun hm => h (List.mem_cons_of_mem _ hm))]
    rfl
theorem cutE_index : ∀ (s : Tx), (Lib.indexByte s 61 = -1 ∧ cutE s = none) ∨ ∃ i : Nat, Lib.indexByte s 61 = (i : Int) ∧ i < s.length ∧ cutE s = some (s.take i, s.drop (i + 1))
  | [] => .inl ⟨rfl, rfl⟩
  | c :: t => by
    rw [Lib.indexByte, cutE]
    by_cases hc : c = 61
    · rw [if_pos (by simpa using hc), if_pos hc]
      exact .inr ⟨0, rfl, by simp, by simp⟩
    · rw [if_neg (by simpa using hc), if_neg hc]
      rcases cutE_index t with ⟨h1, h2⟩ | ⟨i, h1, h2, h3⟩
      · rw [h1, h2]
        exact .inl ⟨rfl, rfl⟩
      · rw [h1, h3, if_neg (by simp <;> omega)]
        exact .inr ⟨i + 1, by omega, by simpa using h2, by simp⟩
def takeL (s : Tx) : Option (Lb × Tx) :=
  match cutE s with
  | none => none
  | some (n, r) => match takeV r with
    | none => none
    | some (v, t) => some ((n, v), t)
theorem takeL_item {x : Lb} (t : Tx) (h : (61 : UInt8) ∉ x.1) : takeL (item x ++ t) = some (x, t) := by
  unfold takeL item
  rw [List.append_assoc, List.cons_append, cutE_at _ _ h]
  simp only [takeV_quote]
theorem takeL_inv {s : Tx} {x : Lb} {t : Tx} (h : takeL s = some (x, t)) : s = item x ++ t ∧ (61 : UInt8) ∉ x.1 := by
  unfold takeL at h
  cases hc : cutE s with
  | none => rw [hc] at h; cases h
  | some p =>
    obtain ⟨n, r⟩ := p
    rw [hc] at h
    simp only at h
    cases hv : takeV r with
    | none => rw [hv] at h; cases h
    | some q =>
      obtain ⟨v, u⟩ := q
      rw [hv] at h
      cases h
      obtain ⟨e1, e2⟩ := cutE_inv s hc
      refine ⟨?_, e2⟩
      rw [e1, takeV_inv hv]
      simp [item]
theorem item_len (x : Lb) : x.1.length + x.2.length + 3 ≤ (item x).length ∧ (item x).length ≤ x.1.length + 2 * x.2.length + 3 := by
  have h1 := quote_len x.2
  have h2 : x.2.length ≤ (esc x.2).length := by
    generalize x.2 = v
    induction v with
    | nil => simp
    | cons c v ih =>
      rw [esc_cons, List.length_append, List.length_cons]
      have : 1 ≤ (esc1 c).length := by unfold esc1; split <;> simp
      omega
  unfold item quote at *
  simp at h1 ⊢
  omega
theorem takeL_len {s : Tx} {x : Lb} {t : Tx} (h : takeL s = some (x, t)) : t.length + x.1.length + x.2.length + 3 ≤ s.length := by
  rw [(takeL_inv h).1, List.length_append]
  have := (item_len x).1
  omega
/-- label by label. -/
def goP : Nat → List Lb → Tx → Option (List Lb × Tx)
  | 0, _, _ => none
  | f + 1, l, s => match takeL s with
    | none => none
    | some (_, []) => none
    | some (x, c :: t) => if mayL (l ++ [x]) then (if c = 44 then goP f (l ++ [x]) t else if c = 125 then some (l ++ [x], t) else none) else none
def parseP (s : Tx) : Option (List Lb × Tx) :=
  match s with
  | [] => none
  | c :: r => if c = 123 then (match r with
    | [] => goP 1 [] []
    | d :: t => if d = 125 then some ([], t) else goP (t.length + 2) [] (d :: t)) else none
theorem goP_nil (f : Nat) (l : List Lb) : goP f l [] = none := by
  cases f <;> rfl
theorem parse_cons (d : UInt8) (t : Tx) : parseP (123 :: d :: t) = if d = 125 then some ([], t) else goP (t.length + 2) [] (d :: t) := by simp [parseP]
theorem parse_one : parseP [123] = none := by simp [parseP, goP_nil]
theorem parse_no {c : UInt8} (r : Tx) (h : c ≠ 123) : parseP (c :: r) = none := by simp [parseP, h]
theorem join2 (x : Tx) (m : List Tx) (h : m ≠ []) (sep : UInt8) : Lib.join (x :: m) [sep] = x ++ sep :: Lib.join m [sep] := by
  cases m with
  | nil => exact absurd rfl h
  | cons y m => simp [Lib.join_cons, Lib.joinTail]
theorem goP_back (t : Tx) : ∀ (m l : List Lb) (f : Nat), m ≠ [] → m.length ≤ f → mayL (l ++ m) = true → goP f l (Lib.join (m.map item) [44] ++ 125 :: t) = some (l ++ m, t)
  | [], _, _, h, _, _ => absurd rfl h
  | x :: m, l, 0, _, hf, _ => by simp at hf
  | x :: m, l, f + 1, _, hf, hm => by
    have hx := (mayL_mem hm (x := x) (by simp)).1
    have hl1 : mayL (l ++ [x]) = true := by
      refine mayL_left (m := m) ?_
      simpa using hm
    by_cases h0 : m = []
    · subst h0
      rw [List.map_singleton, Lib.join_one, goP, takeL_item _ (mayN_no61 hx)]
      simp only [hl1, if_true]
      rfl
    · rw [List.map_cons, join2 _ _ (by simpa using h0), List.append_assoc, List.cons_append, goP, takeL_item _ (mayN_no61 hx)]
      simp only [hl1, if_true]
      rw [goP_back t m (l ++ [x]) f h0 (by simpa using hf) (by simpa using hm)]
      simp
theorem goP_inv : ∀ (f : Nat) (l : List Lb) (s : Tx) (r : List Lb) (t : Tx), goP f l s = some (r, t) → mayL r = true ∧ ∃ m, m ≠ [] ∧ r = l ++ m ∧ s = Lib.join (m.map item) [44] ++ 125 :: t
  | 0, _, _, _, _, h => by cases h
  | f + 1, l, s, r, t, h => by
    rw [goP] at h
    cases hx : takeL s with
    | none => rw [hx] at h; cases h
    | some p =>
      obtain ⟨x, u⟩ := p
      rw [hx] at h
      cases u with
      | nil => cases h
      | cons c u =>
        simp only at h
        have hs := (takeL_inv hx).1
        split at h
        · rename_i hm
          split at h
          · rename_i hc
            subst hc
            obtain ⟨h1, m, h2, h3, h4⟩ := goP_inv f _ _ _ _ h
            refine ⟨h1, x :: m, by simp, by rw [h3]; simp, ?_⟩
            rw [hs, h4, List.map_cons, join2 _ _ (by simpa using h2)]
            simp
          · split at h
            · rename_i hc
              subst hc
              cases h
              exact ⟨hm, [x], by simp, rfl, by rw [hs, List.map_singleton, Lib.join_one]⟩
            · cases h
        · cases h
theorem join_head {c : UInt8} {s t : Tx} {x : Lb} {m : List Lb} (h : c :: s = Lib.join ((x :: m).map item) [44] ++ t) (hx : mayN x.1 = true) : low c = true := by
  obtain ⟨n, v⟩ := x
  cases n with
  | nil => exact absurd (show mayN [] = true from hx) (by decide)
  | cons d n =>
    have : c = d := by
      rw [List.map_cons, Lib.join_cons] at h
      simp [item] at h
      exact h.1
    rw [this]
    exact mayN_head hx
theorem parse_back {l : List Lb} (t : Tx) (h : mayL l = true) : parseP (printL l ++ t) = some (l, t) := by
  show parseP (123 :: (Lib.join (l.map item) [44] ++ [125] ++ t)) = _
  rw [List.append_assoc]
  cases l with
  | nil => rfl
  | cons x m =>
    have hg := goP_back t (x :: m) [] ((Lib.join ((x :: m).map item) [44] ++ 125 :: t).length + 1) (by simp) (by
      have := mayL_len h
      have hi := (item_len x).1
      rw [List.map_cons, Lib.join_cons]
      simp
      simp at this
      omega) h
    cases hr : (Lib.join ((x :: m).map item) [44] ++ [125] ++ t : Tx) with
    | nil => simp at hr
    | cons d u =>
      rw [List.append_assoc] at hr
      have hd : low d = true := join_head (t := 125 :: t) hr.symm (mayL_mem h (by simp)).1
      have hd2 : d ≠ 125 := by rintro rfl; exact absurd hd (by decide)
      have hr' : (Lib.join (List.map item (x :: m)) [44] ++ ([125] ++ t) : Tx) = d :: u := hr
      rw [hr', parse_cons, if_neg hd2]
      have hr2 : (Lib.join (List.map item (x :: m)) [44] ++ 125 :: t : Tx) = d :: u := hr
      rw [hr2] at hg
      exact hg
theorem parse_inv {s : Tx} {l : List Lb} {t : Tx} (h : parseP s = some (l, t)) : mayL l = true ∧ s = printL l ++ t := by
  cases s with
  | nil => cases h
  | cons c r =>
    by_cases hc : c = 123
    · subst hc
      cases r with
      | nil => rw [parse_one] at h; cases h
      | cons d u =>
        rw [parse_cons] at h
        split at h
        · rename_i hd
          subst hd
          cases h
          exact ⟨by decide, rfl⟩
        · obtain ⟨h1, m, h2, h3, h4⟩ := goP_inv _ _ _ _ _ h
          refine ⟨h1, ?_⟩
          rw [h4, h3]
          simp [printL]
    · rw [parse_no r hc] at h; cases h
theorem print_inj {a b : List Lb} (ha : mayL a = true) (hb : mayL b = true) (h : printL a = printL b) : a = b := by
  have h1 := parse_back [] ha
  rw [h, parse_back [] hb] at h1
  cases h1
  rfl
/-- the document's own way. -/
def goR : Nat → List Lb → Tx → Option (List Lb × Tx)
  | 0, _, _ => none
  | f + 1, l, s => match s with
    | [] => none
    | c0 :: s' => if c0 = 125 then (if mayL l then some (l, s') else none) else
      match takeL (c0 :: s') with
      | none => none
      | some (_, []) => none
      | some (x, c :: t) => if c ≠ 44 ∧ c ≠ 125 then none else if 4 < l.length + 1 then none else if c = 44 then (match t with
          | [] => none
          | d :: t' => if d = 125 then none else goR f (l ++ [x]) (d :: t')) else goR f (l ++ [x]) (c :: t)
theorem goR_no : ∀ (f : Nat) (l : List Lb) (s : Tx), mayL l = false → goR f l s = none
  | 0, _, _, _ => rfl
  | f + 1, l, [], h => rfl
  | f + 1, l, c0 :: s', h => by
    rw [goR]
    split
    · rw [h]; rfl
    · cases hx : takeL (c0 :: s') with
      | none => rfl
      | some p =>
        obtain ⟨x, u⟩ := p
        cases u with
        | nil => rfl
        | cons c t =>
          simp only
          have h1 := mayL_no [x] h
          split
          · rfl
          · split
            · rfl
            · split
              · cases t with
                | nil => rfl
                | cons d t' =>
                  simp only
                  split
                  · rfl
                  · exact goR_no f _ _ h1
              · exact goR_no f _ _ h1
theorem goP_125 (f : Nat) (l : List Lb) (t : Tx) : goP f l (125 :: t) = none := by
  cases f with
  | zero => rfl
  | succ f =>
    rw [goP]
    cases hx : takeL (125 :: t) with
    | none => rfl
    | some p =>
      obtain ⟨⟨n, v⟩, u⟩ := p
      cases u with
      | nil => rfl
      | cons c u =>
        simp only
        have hs := (takeL_inv hx).1
        have hn : mayL (l ++ [(n, v)]) = false := by
          cases hm : mayL (l ++ [(n, v)])
          · rfl
          · have h1 := (mayL_mem hm (x := (n, v)) (by simp)).1
            cases n with
            | nil => exact absurd (show mayN [] = true from h1) (by decide)
            | cons d n =>
              have : d = 125 := by
                simp [item] at hs
                exact hs.1.symm
              subst this
              exact absurd (mayN_head h1) (by decide)
        rw [hn]
        rfl
theorem goR_eq : ∀ (f f' : Nat) (l : List Lb) (c0 : UInt8) (s' : Tx), s'.length + 1 < f → s'.length + 1 < f' → mayL l = true → c0 ≠ 125 → goR f l (c0 :: s') = goP f' l (c0 :: s')
  | 0, _, _, _, _, h, _, _, _ => by omega
  | f + 1, 0, _, _, _, _, h, _, _ => by omega
  | f + 1, f' + 1, l, c0, s', hf, hf', hl, h0 => by
    rw [goR, goP]
    simp only [h0, if_false]
    cases hx : takeL (c0 :: s') with
    | none => rfl
    | some p =>
      obtain ⟨x, u⟩ := p
      cases u with
      | nil => rfl
      | cons c t =>
        simp only
        have hlen := takeL_len hx
        simp at hlen
        cases hm : mayL (l ++ [x])
        · rw [if_neg (by simp : ¬ (false = true))]
          split
          · rfl
          · split
            · rfl
            · split
              · cases t with
                | nil => rfl
                | cons d t' =>
                  simp only
                  split
                  · rfl
                  · exact goR_no f _ _ hm
              · exact goR_no f _ _ hm
        · rw [if_pos rfl]
          have h4 := mayL_len hm
          simp at h4
          by_cases hc : c = 44
          · subst hc
            rw [if_neg (by simp), if_neg (by omega), if_pos rfl, if_pos rfl]
            cases t with
            | nil => exact (goP_nil _ _).symm
            | cons d t' =>
              simp only
              simp at hlen
              by_cases hd : d = 125
              · subst hd
                rw [if_pos rfl, goP_125]
              · rw [if_neg hd]
                exact goR_eq f f' _ d t' (by omega) (by omega) hm hd
          · by_cases hc2 : c = 125
            · subst hc2
              rw [if_neg (by simp), if_neg (by omega), if_neg (by decide), if_neg (by decide), if_pos rfl]
              obtain ⟨g, rfl⟩ : ∃ g, f = g + 1 := ⟨f - 1, by omega⟩
              rw [goR]
              simp only [if_true, hm]
            · rw [if_pos ⟨hc, hc2⟩, if_neg hc, if_neg hc2]
end Go.Proofs.Ytlggdeadkebgiaa
