/- Joined: P P2 K. -/
import Derived.Lib.Bytealg
import Derived.Lib.Join
/- Plain mathematics of labels: names and values that may be, their text, what is read of a text, one row less than another. No program in it. -/
namespace Go.Proofs.YtjhodmpgggaknaaGreatDoor

abbrev Tx := List UInt8
abbrev Lb := Tx × Tx
def low (c : UInt8) : Bool := decide (97 ≤ c.toNat) && decide (c.toNat ≤ 122)
def nmc (c : UInt8) : Bool := low c || (decide (48 ≤ c.toNat) && decide (c.toNat ≤ 57)) || c.toNat == 95
def vlc (c : UInt8) : Bool := decide (32 ≤ c.toNat) && decide (c.toNat ≤ 126)
def spc (c : UInt8) : Bool := c.toNat == 34 || c.toNat == 92
def mayB (most : Nat) (f : UInt8 → Bool) (s : Tx) : Bool := !s.isEmpty && decide (s.length ≤ most) && s.all f
def mayN (s : Tx) : Bool := mayB 16 nmc s && low (s.headD 0)
def mayV (s : Tx) : Bool := mayB 32 vlc s
def mayE (x : Lb) : Bool := mayN x.1 && mayV x.2
def rises : List Lb → Bool
  | [] => true
  | [_] => true
  | x :: y :: r => decide (x.1 < y.1) && rises (y :: r)
def mayL (l : List Lb) : Bool := decide (l.length ≤ 4) && l.all mayE && rises l
theorem mayB_iff {most : Nat} {f : UInt8 → Bool} {s : Tx} : mayB most f s = true ↔ s ≠ [] ∧ s.length ≤ most ∧ ∀ c ∈ s, f c = true := by
  unfold mayB
  simp [and_assoc]
theorem rises_iff : ∀ (l : List Lb), rises l = true ↔ ∀ i x y, l[i]? = some x → l[i + 1]? = some y → x.1 < y.1
  | [] => by simp [rises]
  | [z] => by
    simp only [rises, true_iff]
    intro i x y h1 h2
    simp at h2
  | x :: y :: r => by
    rw [rises, Bool.and_eq_true, decide_eq_true_iff, rises_iff (y :: r)]
    constructor
    · rintro ⟨h, h2⟩ i a b ha hb
      cases i with
      | zero => simp at ha hb; subst ha hb; exact h
      | succ i => exact h2 i a b (by simpa using ha) (by simpa using hb)
    · intro h
      exact ⟨h 0 x y rfl rfl, fun i a b ha hb => h (i + 1) a b (by simpa using ha) (by simpa using hb)⟩
theorem mayL_iff {l : List Lb} : mayL l = true ↔ l.length ≤ 4 ∧ (∀ x ∈ l, mayE x = true) ∧ ∀ i x y, l[i]? = some x → l[i + 1]? = some y → x.1 < y.1 := by
  unfold mayL
  rw [Bool.and_eq_true, Bool.and_eq_true, decide_eq_true_iff, List.all_eq_true, rises_iff, and_assoc]
theorem mayL_part {l : List Lb} (h : mayL l = true) (i j : Nat) : mayL ((l.drop i).take j) = true := by
  rw [mayL_iff] at h ⊢
  obtain ⟨h1, h2, h3⟩ := h
  refine ⟨by simp; omega, fun x hx => h2 x (List.mem_of_mem_drop (List.mem_of_mem_take hx)), fun k x y hx hy => ?_⟩
  have hk : k + 1 < j := by
    have := (List.getElem?_eq_some_iff.1 hy).1
    simp at this; omega
  rw [List.getElem?_take_of_lt (by omega), List.getElem?_drop] at hx hy
  exact h3 (i + k) x y hx (by rw [← hy]; congr 1)
theorem mayL_left {l m : List Lb} (h : mayL (l ++ m) = true) : mayL l = true := by
  have := mayL_part h 0 l.length
  simpa using this
theorem mayL_no {l : List Lb} (m : List Lb) (h : mayL l = false) : mayL (l ++ m) = false := by
  cases h2 : mayL (l ++ m)
  · rfl
  · rw [mayL_left h2] at h; cases h
theorem mayL_len {l : List Lb} (h : mayL l = true) : l.length ≤ 4 := (mayL_iff.1 h).1
theorem mayL_mem {l : List Lb} (h : mayL l = true) {x : Lb} (hx : x ∈ l) : mayN x.1 = true ∧ mayV x.2 = true := by
  have := (mayL_iff.1 h).2.1 x hx
  unfold mayE at this
  simpa using this
theorem mayN_len {s : Tx} (h : mayN s = true) : s.length ≤ 16 := by
  unfold mayN at h
  rw [Bool.and_eq_true] at h
  exact (mayB_iff.1 h.1).2.1
theorem mayV_len {s : Tx} (h : mayV s = true) : s.length ≤ 32 ∧ s ≠ [] := ⟨(mayB_iff.1 h).2.1, (mayB_iff.1 h).1⟩
theorem mayN_no61 {s : Tx} (h : mayN s = true) : (61 : UInt8) ∉ s := fun hm => by
  unfold mayN at h
  rw [Bool.and_eq_true] at h
  have := (mayB_iff.1 h.1).2.2 61 hm
  exact absurd this (by decide)
theorem mayN_head {c : UInt8} {s : Tx} (h : mayN (c :: s) = true) : low c = true := by
  unfold mayN at h
  rw [Bool.and_eq_true] at h
  exact h.2

/-- quotes. -/
def esc1 (c : UInt8) : Tx := if spc c then [92, c] else [c]
def esc (v : Tx) : Tx := v.flatMap esc1
def quote (v : Tx) : Tx := 34 :: (esc v ++ [34])
def item (x : Lb) : Tx := x.1 ++ 61 :: quote x.2
def printL (l : List Lb) : Tx := 123 :: (Lib.join (l.map item) [44] ++ [125])
theorem esc_cons (c : UInt8) (v : Tx) : esc (c :: v) = esc1 c ++ esc v := rfl
theorem esc_app (u v : Tx) : esc (u ++ v) = esc u ++ esc v := by simp [esc]
theorem esc_len (v : Tx) : (esc v).length ≤ 2 * v.length := by
  induction v with
  | nil => simp [esc]
  | cons c v ih =>
    rw [esc_cons, List.length_append, List.length_cons]
    have : (esc1 c).length ≤ 2 := by unfold esc1; split <;> simp
    omega
theorem quote_len (v : Tx) : (quote v).length ≤ 2 * v.length + 2 := by
  have := esc_len v
  unfold quote
  simp; omega
def unq (acc : Tx) : Tx → Option (Tx × Tx)
  | [] => none
  | [c] => if c = 34 then some (acc, []) else none
  | c :: d :: t => if c = 34 then some (acc, d :: t) else if c = 92 then (if spc d then unq (acc ++ [d]) t else none) else unq (acc ++ [c]) (d :: t)
theorem unq_nil (acc : Tx) : unq acc [] = none := by rw [unq]
theorem unq_q (acc t : Tx) : unq acc (34 :: t) = some (acc, t) := by
  cases t <;> simp [unq]
theorem unq_b0 (acc : Tx) : unq acc [92] = none := by simp [unq]
theorem unq_b (acc : Tx) {d : UInt8} (t : Tx) (h : spc d = true) : unq acc (92 :: d :: t) = unq (acc ++ [d]) t := by simp [unq, h]
theorem unq_bad (acc : Tx) {d : UInt8} (t : Tx) (h : spc d = false) : unq acc (92 :: d :: t) = none := by simp [unq, h]
theorem unq_c (acc : Tx) {c : UInt8} (t : Tx) (h1 : c ≠ 34) (h2 : c ≠ 92) : unq acc (c :: t) = unq (acc ++ [c]) t := by
  cases t with
  | nil => simp [unq, h1]
  | cons d t => simp [unq, h1, h2]
theorem spc_ne {c : UInt8} (h : spc c = false) : c ≠ 34 ∧ c ≠ 92 := by
  constructor <;> (rintro rfl; exact absurd h (by decide))
theorem spc_or {c : UInt8} (h : spc c = true) : c = 34 ∨ c = 92 := by
  unfold spc at h
  rw [Bool.or_eq_true, beq_iff_eq, beq_iff_eq] at h
  rcases h with h | h
  · exact .inl (UInt8.toNat_inj.1 h)
  · exact .inr (UInt8.toNat_inj.1 h)
theorem unq_esc : ∀ (v acc t : Tx), unq acc (esc v ++ 34 :: t) = some (acc ++ v, t)
  | [], acc, t => by simp [esc, unq_q]
  | c :: v, acc, t => by
    rw [esc_cons]
    unfold esc1
    cases h : spc c
    · rw [if_neg (by simp)]
      show unq acc (c :: (esc v ++ 34 :: t)) = _
      rw [unq_c acc _ (spc_ne h).1 (spc_ne h).2, unq_esc v (acc ++ [c]) t]
      simp
    · rw [if_pos rfl]
      show unq acc (92 :: c :: (esc v ++ 34 :: t)) = _
      rw [unq_b acc _ h, unq_esc v (acc ++ [c]) t]
      simp
theorem unq_inv : ∀ (n : Nat) (s acc v t : Tx), s.length ≤ n → unq acc s = some (v, t) → ∃ u, v = acc ++ u ∧ s = esc u ++ 34 :: t
  | _, [], acc, v, t, _, h => by rw [unq_nil] at h; cases h
  | 0, c :: s, _, _, _, hn, _ => by simp at hn
  | n + 1, c :: s, acc, v, t, hn, h => by
    simp at hn
    by_cases h1 : c = 34
    · subst h1
      rw [unq_q] at h
      cases h
      exact ⟨[], by simp, by simp [esc]⟩
    · by_cases h2 : c = 92
      · subst h2
        cases s with
        | nil => rw [unq_b0] at h; cases h
        | cons d s =>
          cases hd : spc d
          · rw [unq_bad acc s hd] at h; cases h
          · rw [unq_b acc s hd] at h
            simp at hn
            obtain ⟨u, e1, e2⟩ := unq_inv n s _ v t (by omega) h
            refine ⟨d :: u, by rw [e1]; simp, ?_⟩
            rw [esc_cons, e2]
            simp [esc1, hd]
      · rw [unq_c acc s h1 h2] at h
        obtain ⟨u, e1, e2⟩ := unq_inv n s _ v t (by omega) h
        refine ⟨c :: u, by rw [e1]; simp, ?_⟩
        have hs : spc c = false := by
          cases hc : spc c
          · rfl
          · rcases spc_or hc with e | e
            · exact absurd e h1
            · exact absurd e h2
        rw [esc_cons, e2]
        simp [esc1, hs]
def takeV : Tx → Option (Tx × Tx)
  | [] => none
  | c :: t => if c = 34 then unq [] t else none
theorem takeV_quote (v t : Tx) : takeV (quote v ++ t) = some (v, t) := by
  show takeV (34 :: (esc v ++ [34] ++ t)) = _
  rw [takeV, if_pos rfl, List.append_assoc]
  exact unq_esc v [] t
theorem takeV_inv {s v t : Tx} (h : takeV s = some (v, t)) : s = quote v ++ t := by
  cases s with
  | nil => cases h
  | cons c s =>
    rw [takeV] at h
    split at h
    · rename_i hc
      subst hc
      obtain ⟨u, e1, e2⟩ := unq_inv s.length s [] v t (Nat.le_refl _) h
      rw [e2, e1]
      simp [quote]
    · cases h
/-- what stands ahead of the first =, and behind it. -/
def cutE : Tx → Option (Tx × Tx)
  | [] => none
  | c :: t => if c = 61 then some ([], t) else (cutE t).map fun p => (c :: p.1, p.2)
theorem cutE_at : ∀ (n r : Tx), (61 : UInt8) ∉ n → cutE (n ++ 61 :: r) = some (n, r)
  | [], r, _ => by simp [cutE]
  | c :: n, r, h => by
    have hc : c ≠ 61 := fun e => h (by rw [e]; exact List.mem_cons_self)
    rw [List.cons_append, cutE, if_neg hc, cutE_at n r (fun hm => h (List.mem_cons_of_mem _ hm))]
    rfl
theorem cutE_inv : ∀ (s : Tx) {n r : Tx}, cutE s = some (n, r) → s = n ++ 61 :: r ∧ (61 : UInt8) ∉ n
  | [], _, _, h => by cases h
  | c :: t, n, r, h => by
    rw [cutE] at h
    split at h
    · rename_i hc; cases h; subst hc; exact ⟨rfl, by simp⟩
    · rename_i hc
      cases hx : cutE t with
      | none => rw [hx] at h; cases h
      | some p =>
        rw [hx] at h
        cases h
        obtain ⟨e1, e2⟩ := cutE_inv t hx
        refine ⟨by rw [List.cons_append, ← e1], fun hm => ?_⟩
        rcases List.mem_cons.1 hm with e | e
        · exact hc e.symm
        · exact e2 e
theorem cutE_none : ∀ (s : Tx), (61 : UInt8) ∉ s → cutE s = none
  | [], _ => rfl
  | c :: t, h => by
    rw [cutE, if_neg (fun e => h (by rw [e]; exact List.mem_cons_self)), cutE_none t (fun hm => h (List.mem_cons_of_mem _ hm))]
    rfl
theorem cutE_index : ∀ (s : Tx), (Lib.indexByte s 61 = -1 ∧ cutE s = none) ∨ ∃ i : Nat, Lib.indexByte s 61 = (i : Int) ∧ i < s.length ∧ cutE s = some (s.take i, s.drop (i + 1))
  | [] => .inl ⟨rfl, rfl⟩
  | c :: t => by
    rw [Lib.indexByte, cutE]
    by_cases hc : c = 61
    · rw [if_pos (by simpa using hc), if_pos hc]
      exact .inr ⟨0, rfl, by simp, by simp⟩
    · rw [if_neg (by simpa using hc), if_neg hc]
      rcases cutE_index t with ⟨h1, h2⟩ | ⟨i, h1, h2, h3⟩
      · rw [h1, h2]
        exact .inl ⟨rfl, rfl⟩
      · rw [h1, h3, if_neg (by simp <;> omega)]
        exact .inr ⟨i + 1, by omega, by simpa using h2, by simp⟩
def takeL (s : Tx) : Option (Lb × Tx) :=
  match cutE s with
  | none => none
  | some (n, r) => match takeV r with
    | none => none
    | some (v, t) => some ((n, v), t)
theorem takeL_item {x : Lb} (t : Tx) (h : (61 : UInt8) ∉ x.1) : takeL (item x ++ t) = some (x, t) := by
  unfold takeL item
  rw [List.append_assoc, List.cons_append, cutE_at _ _ h]
  simp only [takeV_quote]
theorem takeL_inv {s : Tx} {x : Lb} {t : Tx} (h : takeL s = some (x, t)) : s = item x ++ t ∧ (61 : UInt8) ∉ x.1 := by
  unfold takeL at h
  cases hc : cutE s with
  | none => rw [hc] at h; cases h
  | some p =>
    obtain ⟨n, r⟩ := p
    rw [hc] at h
    simp only at h
    cases hv : takeV r with
    | none => rw [hv] at h; cases h
    | some q =>
      obtain ⟨v, u⟩ := q
      rw [hv] at h
      cases h
      obtain ⟨e1, e2⟩ := cutE_inv s hc
      refine ⟨?_, e2⟩
      rw [e1, takeV_inv hv]
      simp [item]
theorem item_len (x : Lb) : x.1.length + x.2.length + 3 ≤ (item x).length ∧ (item x).length ≤ x.1.length + 2 * x.2.length + 3 := by
  have h1 := quote_len x.2
  have h2 : x.2.length ≤ (esc x.2).length := by
    generalize x.2 = v
    induction v with
    | nil => simp
    | cons c v ih =>
      rw [esc_cons, List.length_append, List.length_cons]
      have : 1 ≤ (esc1 c).length := by unfold esc1; split <;> simp
      omega
  unfold item quote at *
  simp at h1 ⊢
  omega
theorem takeL_len {s : Tx} {x : Lb} {t : Tx} (h : takeL s = some (x, t)) : t.length + x.1.length + x.2.length + 3 ≤ s.length := by
  rw [(takeL_inv h).1, List.length_append]
  have := (item_len x).1
  omega
/-- label by label. -/
def goP : Nat → List Lb → Tx → Option (List Lb × Tx)
  | 0, _, _ => none
  | f + 1, l, s => match takeL s with
    | none => none
    | some (_, []) => none
    | some (x, c :: t) => if mayL (l ++ [x]) then (if c = 44 then goP f (l ++ [x]) t else if c = 125 then some (l ++ [x], t) else none) else none
def parseP (s : Tx) : Option (List Lb × Tx) :=
  match s with
  | [] => none
  | c :: r => if c = 123 then (match r with
    | [] => goP 1 [] []
    | d :: t => if d = 125 then some ([], t) else goP (t.length + 2) [] (d :: t)) else none
theorem goP_nil (f : Nat) (l : List Lb) : goP f l [] = none := by
  cases f <;> rfl
theorem parse_cons (d : UInt8) (t : Tx) : parseP (123 :: d :: t) = if d = 125 then some ([], t) else goP (t.length + 2) [] (d :: t) := by simp [parseP]
theorem parse_one : parseP [123] = none := by simp [parseP, goP_nil]
theorem parse_no {c : UInt8} (r : Tx) (h : c ≠ 123) : parseP (c :: r) = none := by simp [parseP, h]
theorem join2 (x : Tx) (m : List Tx) (h : m ≠ []) (sep : UInt8) : Lib.join (x :: m) [sep] = x ++ sep :: Lib.join m [sep] := by
  cases m with
  | nil => exact absurd rfl h
  | cons y m => simp [Lib.join_cons, Lib.joinTail]
theorem goP_back (t : Tx) : ∀ (m l : List Lb) (f : Nat), m ≠ [] → m.length ≤ f → mayL (l ++ m) = true → goP f l (Lib.join (m.map item) [44] ++ 125 :: t) = some (l ++ m, t)
  | [], _, _, h, _, _ => absurd rfl h
  | x :: m, l, 0, _, hf, _ => by simp at hf
  | x :: m, l, f + 1, _, hf, hm => by
    have hx := (mayL_mem hm (x := x) (by simp)).1
    have hl1 : mayL (l ++ [x]) = true := by
      refine mayL_left (m := m) ?_
      simpa using hm
    by_cases h0 : m = []
    · subst h0
      rw [List.map_singleton, Lib.join_one, goP, takeL_item _ (mayN_no61 hx)]
      simp only [hl1, if_true]
      rfl
    · rw [List.map_cons, join2 _ _ (by simpa using h0), List.append_assoc, List.cons_append, goP, takeL_item _ (mayN_no61 hx)]
      simp only [hl1, if_true]
      rw [goP_back t m (l ++ [x]) f h0 (by simpa using hf) (by simpa using hm)]
      simp
theorem goP_inv : ∀ (f : Nat) (l : List Lb) (s : Tx) (r : List Lb) (t : Tx), goP f l s = some (r, t) → mayL r = true ∧ ∃ m, m ≠ [] ∧ r = l ++ m ∧ s = Lib.join (m.map item) [44] ++ 125 :: t
  | 0, _, _, _, _, h => by cases h
  | f + 1, l, s, r, t, h => by
    rw [goP] at h
    cases hx : takeL s with
    | none => rw [hx] at h; cases h
    | some p =>
      obtain ⟨x, u⟩ := p
      rw [hx] at h
      cases u with
      | nil => cases h
      | cons c u =>
        simp only at h
        have hs := (takeL_inv hx).1
        split at h
        · rename_i hm
          split at h
          · rename_i hc
            subst hc
            obtain ⟨h1, m, h2, h3, h4⟩ := goP_inv f _ _ _ _ h
            refine ⟨h1, x :: m, by simp, by rw [h3]; simp, ?_⟩
            rw [hs, h4, List.map_cons, join2 _ _ (by simpa using h2)]
            simp
          · split at h
            · rename_i hc
              subst hc
              cases h
              exact ⟨hm, [x], by simp, rfl, by rw [hs, List.map_singleton, Lib.join_one]⟩
            · cases h
        · cases h
theorem join_head {c : UInt8} {s t : Tx} {x : Lb} {m : List Lb} (h : c :: s = Lib.join ((x :: m).map item) [44] ++ t) (hx : mayN x.1 = true) : low c = true := by
  obtain ⟨n, v⟩ := x
  cases n with
  | nil => exact absurd (show mayN [] = true from hx) (by decide)
  | cons d n =>
    have : c = d := by
      rw [List.map_cons, Lib.join_cons] at h
      simp [item] at h
      exact h.1
    rw [this]
    exact mayN_head hx
theorem parse_back {l : List Lb} (t : Tx) (h : mayL l = true) : parseP (printL l ++ t) = some (l, t) := by
  show parseP (123 :: (Lib.join (l.map item) [44] ++ [125] ++ t)) = _
  rw [List.append_assoc]
  cases l with
  | nil => rfl
  | cons x m =>
    have hg := goP_back t (x :: m) [] ((Lib.join ((x :: m).map item) [44] ++ 125 :: t).length + 1) (by simp) (by
      have := mayL_len h
      have hi := (item_len x).1
      rw [List.map_cons, Lib.join_cons]
      simp
      simp at this
      omega) h
    cases hr : (Lib.join ((x :: m).map item) [44] ++ [125] ++ t : Tx) with
    | nil => simp at hr
    | cons d u =>
      rw [List.append_assoc] at hr
      have hd : low d = true := join_head (t := 125 :: t) hr.symm (mayL_mem h (by simp)).1
      have hd2 : d ≠ 125 := by rintro rfl; exact absurd hd (by decide)
      have hr' : (Lib.join (List.map item (x :: m)) [44] ++ ([125] ++ t) : Tx) = d :: u := hr
      rw [hr', parse_cons, if_neg hd2]
      have hr2 : (Lib.join (List.map item (x :: m)) [44] ++ 125 :: t : Tx) = d :: u := hr
      rw [hr2] at hg
      exact hg
theorem parse_inv {s : Tx} {l : List Lb} {t : Tx} (h : parseP s = some (l, t)) : mayL l = true ∧ s = printL l ++ t := by
  cases s with
  | nil => cases h
  | cons c r =>
    by_cases hc : c = 123
    · subst hc
      cases r with
      | nil => rw [parse_one] at h; cases h
      | cons d u =>
        rw [parse_cons] at h
        split at h
        · rename_i hd
          subst hd
          cases h
          exact ⟨by decide, rfl⟩
        · obtain ⟨h1, m, h2, h3, h4⟩ := goP_inv _ _ _ _ _ h
          refine ⟨h1, ?_⟩
          rw [h4, h3]
          simp [printL]
    · rw [parse_no r hc] at h; cases h
theorem print_inj {a b : List Lb} (ha : mayL a = true) (hb : mayL b = true) (h : printL a = printL b) : a = b := by
  have h1 := parse_back [] ha
  rw [h, parse_back [] hb] at h1
  cases h1
  rfl
/-- the document's own way. -/
def goR : Nat → List Lb → Tx → Option (List Lb × Tx)
  | 0, _, _ => none
  | f + 1, l, s => match s with
    | [] => none
    | c0 :: s' => if c0 = 125 then (if mayL l then some (l, s') else none) else
      match takeL (c0 :: s') with
      | none => none
      | some (_, []) => none
      | some (x, c :: t) => if c ≠ 44 ∧ c ≠ 125 then none else if 4 < l.length + 1 then none else if c = 44 then (match t with
          | [] => none
          | d :: t' => if d = 125 then none else goR f (l ++ [x]) (d :: t')) else goR f (l ++ [x]) (c :: t)
theorem goR_no : ∀ (f : Nat) (l : List Lb) (s : Tx), mayL l = false → goR f l s = none
  | 0, _, _, _ => rfl
  | f + 1, l, [], h => rfl
  | f + 1, l, c0 :: s', h => by
    rw [goR]
    split
    · rw [h]; rfl
    · cases hx : takeL (c0 :: s') with
      | none => rfl
      | some p =>
        obtain ⟨x, u⟩ := p
        cases u with
        | nil => rfl
        | cons c t =>
          simp only
          have h1 := mayL_no [x] h
          split
          · rfl
          · split
            · rfl
            · split
              · cases t with
                | nil => rfl
                | cons d t' =>
                  simp only
                  split
                  · rfl
                  · exact goR_no f _ _ h1
              · exact goR_no f _ _ h1
theorem goP_125 (f : Nat) (l : List Lb) (t : Tx) : goP f l (125 :: t) = none := by
  cases f with
  | zero => rfl
  | succ f =>
    rw [goP]
    cases hx : takeL (125 :: t) with
    | none => rfl
    | some p =>
      obtain ⟨⟨n, v⟩, u⟩ := p
      cases u with
      | nil => rfl
      | cons c u =>
        simp only
        have hs := (takeL_inv hx).1
        have hn : mayL (l ++ [(n, v)]) = false := by
          cases hm : mayL (l ++ [(n, v)])
          · rfl
          · have h1 := (mayL_mem hm (x := (n, v)) (by simp)).1
            cases n with
            | nil => exact absurd (show mayN [] = true from h1) (by decide)
            | cons d n =>
              have : d = 125 := by
                simp [item] at hs
                exact hs.1.symm
              subst this
              exact absurd (mayN_head h1) (by decide)
        rw [hn]
        rfl
theorem goR_eq : ∀ (f f' : Nat) (l : List Lb) (c0 : UInt8) (s' : Tx), s'.length + 1 < f → s'.length + 1 < f' → mayL l = true → c0 ≠ 125 → goR f l (c0 :: s') = goP f' l (c0 :: s')
  | 0, _, _, _, _, h, _, _, _ => by omega
  | f + 1, 0, _, _, _, _, h, _, _ => by omega
  | f + 1, f' + 1, l, c0, s', hf, hf', hl, h0 => by
    rw [goR, goP]
    simp only [h0, if_false]
    cases hx : takeL (c0 :: s') with
    | none => rfl
    | some p =>
      obtain ⟨x, u⟩ := p
      cases u with
      | nil => rfl
      | cons c t =>
        simp only
        have hlen := takeL_len hx
        simp at hlen
        cases hm : mayL (l ++ [x])
        · rw [if_neg (by simp : ¬ (false = true))]
          split
          · rfl
          · split
            · rfl
            · split
              · cases t with
                | nil => rfl
                | cons d t' =>
                  simp only
                  split
                  · rfl
                  · exact goR_no f _ _ hm
              · exact goR_no f _ _ hm
        · rw [if_pos rfl]
          have h4 := mayL_len hm
          simp at h4
          by_cases hc : c = 44
          · subst hc
            rw [if_neg (by simp), if_neg (by omega), if_pos rfl, if_pos rfl]
            cases t with
            | nil => exact (goP_nil _ _).symm
            | cons d t' =>
              simp only
              simp at hlen
              by_cases hd : d = 125
              · subst hd
                rw [if_pos rfl, goP_125]
              · rw [if_neg hd]
                exact goR_eq f f' _ d t' (by omega) (by omega) hm hd
          · by_cases hc2 : c = 125
            · subst hc2
              rw [if_neg (by simp), if_neg (by omega), if_neg (by decide), if_neg (by decide), if_pos rfl]
              obtain ⟨g, rfl⟩ : ∃ g, f = g + 1 := ⟨f - 1, by omega⟩
              rw [goR]
              simp only [if_true, hm]
            · rw [if_pos ⟨hc, hc2⟩, if_neg hc, if_neg hc2]
end Go.Proofs.YtjhodmpgggaknaaGreatDoor
/- Plain mathematics of labels: the order of texts, of labels, of rows; a value by its name. No program in it. -/
namespace Go.Proofs.YtjhodmpgggaknaaGreatDoor

/-- below 0: less; 0: the same. -/
structure Ord3 {α : Type} (c : α → α → Int) : Prop where
  swap : ∀ x y, c y x = - c x y
  zero : ∀ x y, c x y = 0 → x = y
  trans : ∀ x y z, c x y < 0 → c y z < 0 → c x z < 0
theorem Ord3.refl {α : Type} {c : α → α → Int} (h : Ord3 c) (x : α) : c x x = 0 := by have := h.swap x x; omega
def lex {α : Type} (c : α → α → Int) : List α → List α → Int
  | [], [] => 0
  | [], _ :: _ => -1
  | _ :: _, [] => 1
  | x :: a, y :: b => if c x y ≠ 0 then c x y else lex c a b
theorem lex_swap {α : Type} {c : α → α → Int} (h : Ord3 c) : ∀ a b, lex c b a = - lex c a b
  | [], [] => rfl
  | [], _ :: _ => rfl
  | _ :: _, [] => rfl
  | x :: a, y :: b => by
    have h1 := h.swap x y
    rw [lex, lex, lex_swap h a b]
    by_cases h0 : c x y = 0
    · rw [if_neg (by omega), if_neg (by omega)]
    · rw [if_pos (by omega), if_pos h0, h1]
theorem lex_zero {α : Type} {c : α → α → Int} (h : Ord3 c) : ∀ a b, lex c a b = 0 → a = b
  | [], [], _ => rfl
  | [], _ :: _, e => by simp [lex] at e
  | _ :: _, [], e => by simp [lex] at e
  | x :: a, y :: b, e => by
    rw [lex] at e
    by_cases h0 : c x y = 0
    · rw [if_neg (by omega)] at e
      rw [h.zero x y h0, lex_zero h a b e]
    · rw [if_pos h0] at e
      exact absurd e h0
theorem lex_trans {α : Type} {c : α → α → Int} (h : Ord3 c) : ∀ a b d, lex c a b < 0 → lex c b d < 0 → lex c a d < 0
  | [], [], d, e, _ => by simp [lex] at e
  | [], _ :: _, [], _, e => by simp [lex] at e
  | [], _ :: _, _ :: _, _, _ => by simp [lex]
  | _ :: _, [], _, e, _ => by simp [lex] at e
  | _ :: _, _ :: _, [], _, e => by simp [lex] at e
  | x :: a, y :: b, z :: d, e1, e2 => by
    rw [lex] at e1 e2 ⊢
    by_cases h1 : c x y = 0
    · have := h.zero x y h1
      subst this
      rw [if_neg (by omega)] at e1
      by_cases h2 : c x z = 0
      · rw [if_neg (by omega)] at e2 ⊢
        exact lex_trans h a b d e1 e2
      · rw [if_pos h2] at e2 ⊢
        exact e2
    · rw [if_pos h1] at e1
      by_cases h2 : c y z = 0
      · have := h.zero y z h2
        subst this
        rw [if_pos h1]
        exact e1
      · rw [if_pos h2] at e2
        have := h.trans x y z e1 e2
        rw [if_pos (by omega)]
        exact this
theorem lex_ord {α : Type} {c : α → α → Int} (h : Ord3 c) : Ord3 (lex c) := ⟨lex_swap h, lex_zero h, lex_trans h⟩
theorem lex_left {α : Type} {c : α → α → Int} (h : Ord3 c) : ∀ (a b d : List α), lex c (a ++ b) (a ++ d) = lex c b d
  | [], _, _ => rfl
  | x :: a, b, d => by
    rw [List.cons_append, List.cons_append, lex, if_neg (by rw [h.refl]; simp), lex_left h a b d]
theorem lex_snoc {α : Type} {c : α → α → Int} (h : Ord3 c) (a : List α) (x : α) : lex c a (a ++ [x]) = -1 := by
  have := lex_left h a [] [x]
  rw [List.append_nil] at this
  rw [this]
  rfl
def bc (x y : UInt8) : Int := if x < y then -1 else if y < x then 1 else 0
theorem bc_ord : Ord3 bc := by
  refine ⟨fun x y => ?_, fun x y h => ?_, fun x y z h1 h2 => ?_⟩
  · simp only [bc, UInt8.lt_iff_toNat_lt]
    split <;> split <;> (try split) <;> (try rfl) <;> omega
  · simp only [bc, UInt8.lt_iff_toNat_lt] at h
    refine UInt8.toNat_inj.1 ?_
    split at h
    · omega
    · split at h <;> omega
  · unfold bc at *
    simp only [UInt8.lt_iff_toNat_lt] at *
    split at h1
    · split at h2
      · rw [if_pos (by omega)]; decide
      · split at h2 <;> omega
    · split at h1 <;> omega
theorem cb_lex : ∀ (a b : Tx), Lib.compareBytes a b = lex bc a b
  | [], [] => rfl
  | [], _ :: _ => rfl
  | _ :: _, [] => rfl
  | x :: a, y :: b => by
    rw [Lib.compareBytes, lex, cb_lex a b]
    unfold bc
    by_cases h1 : x < y
    · simp [h1]
    · by_cases h2 : y < x
      · simp [h1, h2]
      · simp [h1, h2]
def cb (a b : Tx) : Int := Lib.compareBytes a b
theorem cb_ord : Ord3 cb := by
  have : cb = lex bc := by funext a b; exact cb_lex a b
  rw [this]
  exact lex_ord bc_ord
theorem lt_cb : ∀ (a b : Tx), a < b ↔ cb a b < 0
  | [], [] => by simp [cb, Lib.compareBytes]
  | [], _ :: _ => by simp [cb, Lib.compareBytes]
  | _ :: _, [] => by simp [cb, Lib.compareBytes]
  | x :: a, y :: b => by
    have ih := lt_cb a b
    unfold cb at ih ⊢
    rw [List.cons_lt_cons_iff, Lib.compareBytes, ih]
    by_cases h1 : x < y
    · simp [h1]
    · by_cases h2 : y < x
      · have : x ≠ y := by rintro rfl; exact h1 h2
        simp [h1, h2, this]
      · have : x = y := by
          rw [UInt8.lt_iff_toNat_lt] at h1 h2
          exact UInt8.toNat_inj.1 (by omega)
        simp [this]
theorem cb_gt (a b : Tx) : b < a ↔ 0 < cb a b := by
  rw [lt_cb b a, cb_ord.swap a b]; omega
theorem cb_eq (a b : Tx) : a = b ↔ cb a b = 0 := ⟨fun h => h ▸ cb_ord.refl a, cb_ord.zero a b⟩
theorem tx_trans {a b c : Tx} (h1 : a < b) (h2 : b < c) : a < c := (lt_cb a c).2 (cb_ord.trans a b c ((lt_cb a b).1 h1) ((lt_cb b c).1 h2))
theorem tx_ne {a b : Tx} (h : a < b) : a ≠ b := fun e => by
  have := (lt_cb a b).1 h
  rw [(cb_eq a b).1 e] at this
  omega
def cmpL (x y : Lb) : Int := if cb x.1 y.1 ≠ 0 then cb x.1 y.1 else cb x.2 y.2
theorem cmpL_ord : Ord3 cmpL := by
  refine ⟨fun x y => ?_, fun x y h => ?_, fun x y z h1 h2 => ?_⟩
  · have h1 := cb_ord.swap x.1 y.1
    have h2 := cb_ord.swap x.2 y.2
    unfold cmpL
    by_cases h0 : cb x.1 y.1 = 0
    · rw [if_neg (by omega), if_neg (by omega), h2]
    · rw [if_pos (by omega), if_pos h0, h1]
  · unfold cmpL at h
    by_cases h0 : cb x.1 y.1 = 0
    · rw [if_neg (by omega)] at h
      exact Prod.ext (cb_ord.zero _ _ h0) (cb_ord.zero _ _ h)
    · rw [if_pos h0] at h
      exact absurd h h0
  · obtain ⟨xn, xv⟩ := x
    obtain ⟨yn, yv⟩ := y
    obtain ⟨zn, zv⟩ := z
    unfold cmpL at *
    simp only at *
    by_cases e1 : cb xn yn = 0
    · have := cb_ord.zero _ _ e1
      subst this
      rw [if_neg (by omega)] at h1
      by_cases e2 : cb xn zn = 0
      · rw [if_neg (by omega)] at h2 ⊢
        exact cb_ord.trans _ _ _ h1 h2
      · rw [if_pos e2] at h2 ⊢
        exact h2
    · rw [if_pos e1] at h1
      by_cases e2 : cb yn zn = 0
      · have := cb_ord.zero _ _ e2
        subst this
        rw [if_pos e1]
        exact h1
      · rw [if_pos e2] at h2
        have := cb_ord.trans _ _ _ h1 h2
        rw [if_pos (by omega)]
        exact this
def cmpR (a b : List Lb) : Int := lex cmpL a b
theorem cmpR_ord : Ord3 cmpR := lex_ord cmpL_ord
def lessL (a b : List Lb) : Bool := decide (cmpR a b < 0)
/-- one step of a loop over both. -/
theorem less_step {a b : List Lb} {k : Nat} {x y : Lb} (ha : a[k]? = some x) (hb : b[k]? = some y) : lessL (a.drop k) (b.drop k) = if cmpL x y ≠ 0 then decide (cmpL x y < 0) else lessL (a.drop (k + 1)) (b.drop (k + 1)) := by
  obtain ⟨h1, rfl⟩ := List.getElem?_eq_some_iff.1 ha
  obtain ⟨h2, rfl⟩ := List.getElem?_eq_some_iff.1 hb
  rw [List.drop_eq_getElem_cons h1, List.drop_eq_getElem_cons h2]
  unfold lessL cmpR
  rw [lex]
  split <;> rfl
theorem less_end {a b : List Lb} {k : Nat} (h : a.length ≤ k ∨ b.length ≤ k) (ha : k ≤ a.length) (hb : k ≤ b.length) : lessL (a.drop k) (b.drop k) = decide (a.length < b.length) := by
  unfold lessL cmpR
  by_cases h1 : a.length = k
  · rw [List.drop_eq_nil_of_le (by omega)]
    by_cases h2 : b.length = k
    · rw [List.drop_eq_nil_of_le (by omega)]
      simp [lex]; omega
    · cases hd : b.drop k with
      | nil => rw [List.drop_eq_nil_iff] at hd; omega
      | cons y t => simp [lex]; omega
  · rw [List.drop_eq_nil_of_le (as := b) (by omega)]
    cases hd : a.drop k with
    | nil => rw [List.drop_eq_nil_iff] at hd; omega
    | cons y t => simp [lex]; omega
def valueL : List Lb → Tx → Tx
  | [], _ => []
  | x :: r, n => if x.1 = n then x.2 else valueL r n
theorem value_step {l : List Lb} {k : Nat} {x : Lb} (n : Tx) (hx : l[k]? = some x) : valueL (l.drop k) n = if x.1 = n then x.2 else valueL (l.drop (k + 1)) n := by
  obtain ⟨h1, rfl⟩ := List.getElem?_eq_some_iff.1 hx
  rw [List.drop_eq_getElem_cons h1]
  rfl
theorem rises_tail {x : Lb} {r : List Lb} (h : rises (x :: r) = true) : rises r = true := by
  cases r with
  | nil => rfl
  | cons y r =>
    rw [rises, Bool.and_eq_true] at h
    exact h.2
theorem rises_all : ∀ {r : List Lb} {x : Lb}, rises (x :: r) = true → ∀ y ∈ r, x.1 < y.1
  | [], _, _, _, hy => by cases hy
  | z :: r, x, h, y, hy => by
    have h1 := h
    rw [rises, Bool.and_eq_true, decide_eq_true_iff] at h1
    rcases List.mem_cons.1 hy with rfl | hy
    · exact h1.1
    · exact tx_trans h1.1 (rises_all h1.2 y hy)
theorem value_of : ∀ {l : List Lb}, rises l = true → ∀ x ∈ l, valueL l x.1 = x.2
  | [], _, _, hx => by cases hx
  | z :: r, h, x, hx => by
    rw [valueL]
    rcases List.mem_cons.1 hx with rfl | hx
    · rw [if_pos rfl]
    · rw [if_neg (tx_ne (rises_all h x hx))]
      exact value_of (rises_tail h) x hx
theorem mayL_value {l : List Lb} (h : mayL l = true) {x : Lb} (hx : x ∈ l) : valueL l x.1 = x.2 := by
  unfold mayL at h
  rw [Bool.and_eq_true] at h
  exact value_of h.2 x hx
theorem value_none : ∀ {l : List Lb} {n : Tx}, (∀ x ∈ l, x.1 ≠ n) → valueL l n = []
  | [], _, _ => rfl
  | x :: r, n, h => by
    rw [valueL, if_neg (h x (by simp)), value_none (fun y hy => h y (by simp [hy]))]
theorem mayL_found {l : List Lb} (h : mayL l = true) (n : Tx) : (l.any fun x => x.1 == n) = !(valueL l n == []) := by
  cases hf : l.any fun x => x.1 == n
  · rw [value_none]
    · rfl
    · intro x hx e
      have := List.any_eq_false.1 hf x hx
      exact this (by simpa using e)
  · obtain ⟨x, hx, e⟩ := List.any_eq_true.1 hf
    have e' : x.1 = n := by simpa using e
    subst e'
    rw [mayL_value h hx]
    have := (mayV_len (mayL_mem h hx).2).2
    cases hv : x.2 with
    | nil => exact absurd hv this
    | cons c t => rfl
/-- P7.7. -/
theorem less_asym {a b : List Lb} (h : lessL a b = true) : lessL b a = false := by
  unfold lessL at *
  rw [decide_eq_true_iff] at h
  rw [decide_eq_false_iff_not, cmpR_ord.swap a b]
  omega
theorem less_trans {a b c : List Lb} (h1 : lessL a b = true) (h2 : lessL b c = true) : lessL a c = true := by
  unfold lessL at *
  rw [decide_eq_true_iff] at *
  exact cmpR_ord.trans a b c h1 h2
theorem less_self (a : List Lb) : lessL a a = false := by
  unfold lessL
  rw [decide_eq_false_iff_not, cmpR_ord.refl]
  omega
theorem less_same (a b : List Lb) : (!lessL a b && !lessL b a) = (a == b) := by
  have hs := cmpR_ord.swap a b
  unfold lessL
  rw [hs]
  by_cases h : a = b
  · subst h
    rw [cmpR_ord.refl]
    simp
  · have h0 : cmpR a b ≠ 0 := fun e => h (cmpR_ord.zero a b e)
    have e1 : (a == b) = false := by simpa using h
    rw [e1]
    by_cases h1 : cmpR a b < 0
    · simp [h1]
    · have h2 : - cmpR a b < 0 := by omega
      rw [decide_eq_false h1, decide_eq_true h2]
      rfl
theorem less_snoc (a : List Lb) (x : Lb) : lessL a (a ++ [x]) = true := by
  unfold lessL cmpR
  rw [lex_snoc cmpL_ord]
  rfl
theorem less_cut (a : List Lb) (n v : Tx) (c : UInt8) : lessL (a ++ [(n, v)]) (a ++ [(n, v ++ [c])]) = true := by
  unfold lessL cmpR
  rw [lex_left cmpL_ord, lex]
  have h : cmpL (n, v) (n, v ++ [c]) = -1 := by
    unfold cmpL
    simp only
    rw [if_neg (by rw [cb_ord.refl]; simp)]
    show Lib.compareBytes v (v ++ [c]) = -1
    rw [cb_lex, lex_snoc bc_ord]
  rw [h]
  rfl
end Go.Proofs.YtjhodmpgggaknaaGreatDoor
/- Plain mathematics of matchers: which may be, their text, what is read of a text, whether they hold. No program in it. -/
namespace Go.Proofs.YtjhodmpgggaknaaGreatDoor.Mat

abbrev Mt := Tx × UInt8 × Tx
def sgn (c : UInt8) : Bool := c.toNat == 61 || c.toNat == 33 || c.toNat == 94
def opS (o : UInt8) : Tx := if o = 1 then [33, 61] else if o = 2 then [94, 61] else [61]
def mayV0 (s : Tx) : Bool := decide (s.length ≤ 32) && s.all vlc
def mayM1 (x : Mt) : Bool := decide (x.2.1.toNat ≤ 2) && mayN x.1 && mayV0 x.2.2
def mayM (m : List Mt) : Bool := decide (m.length ≤ 6) && m.all mayM1
def itemM (x : Mt) : Tx := x.1 ++ (opS x.2.1 ++ quote x.2.2)
def printM (m : List Mt) : Tx := 123 :: (Lib.join (m.map itemM) [44] ++ [125])
def asks (o : UInt8) (has wants : Tx) : Bool := if o = 0 then has == wants else if o = 1 then has != wants else if o = 2 then Lib.hasPrefix has wants else false
def does1 (l : List Lb) (x : Mt) : Bool := asks x.2.1 (valueL l x.1) x.2.2
def doesM (m : List Mt) (l : List Lb) : Bool := m.all (does1 l)
theorem mayV0_or (v : Tx) : mayV0 v = (v.isEmpty || mayV v) := by
  unfold mayV0 mayV mayB
  cases v with
  | nil => rfl
  | cons c t => simp
theorem mayM_iff {m : List Mt} : mayM m = true ↔ m.length ≤ 6 ∧ ∀ x ∈ m, mayM1 x = true := by
  unfold mayM
  rw [Bool.and_eq_true, decide_eq_true_iff, List.all_eq_true]
theorem mayM1_iff {x : Mt} : mayM1 x = true ↔ x.2.1.toNat ≤ 2 ∧ mayN x.1 = true ∧ mayV0 x.2.2 = true := by
  unfold mayM1
  rw [Bool.and_eq_true, Bool.and_eq_true, decide_eq_true_iff, and_assoc]
theorem mayM_part {m : List Mt} (h : mayM m = true) (i j : Nat) : mayM ((m.drop i).take j) = true := by
  rw [mayM_iff] at h ⊢
  exact ⟨by simp; omega, fun x hx => h.2 x (List.mem_of_mem_drop (List.mem_of_mem_take hx))⟩
theorem mayM_left {l m : List Mt} (h : mayM (l ++ m) = true) : mayM l = true := by
  have := mayM_part h 0 l.length
  simpa using this
theorem mayM_len {l : List Mt} (h : mayM l = true) : l.length ≤ 6 := (mayM_iff.1 h).1
theorem mayM_mem {m : List Mt} (h : mayM m = true) {x : Mt} (hx : x ∈ m) : x.2.1.toNat ≤ 2 ∧ mayN x.1 = true ∧ mayV0 x.2.2 = true := mayM1_iff.1 ((mayM_iff.1 h).2 x hx)
theorem mayV0_len {s : Tx} (h : mayV0 s = true) : s.length ≤ 32 := by
  unfold mayV0 at h
  rw [Bool.and_eq_true, decide_eq_true_iff] at h
  exact h.1
theorem mayN_all {s : Tx} (h : mayN s = true) : ∀ c ∈ s, nmc c = true := by
  unfold mayN at h
  rw [Bool.and_eq_true] at h
  exact (mayB_iff.1 h.1).2.2
theorem sgn_nmc {c : UInt8} (h : nmc c = true) : sgn c = false := by
  unfold sgn
  unfold nmc low at h
  simp at h ⊢
  omega
theorem mayN_sgn {s : Tx} (h : mayN s = true) : ∀ c ∈ s, sgn c = false := fun c hc => sgn_nmc (mayN_all h c hc)
theorem op_cases {o : UInt8} (h : o.toNat ≤ 2) : o = 0 ∨ o = 1 ∨ o = 2 := by
  rcases (by omega : o.toNat = 0 ∨ o.toNat = 1 ∨ o.toNat = 2) with e | e | e
  · exact .inl (UInt8.toNat_inj.1 e)
  · exact .inr (.inl (UInt8.toNat_inj.1 e))
  · exact .inr (.inr (UInt8.toNat_inj.1 e))
/-- the sign that a text begins with. -/
def takeS : Tx → Option (UInt8 × Tx)
  | 61 :: r => some (0, r)
  | 33 :: 61 :: r => some (1, r)
  | 94 :: 61 :: r => some (2, r)
  | _ => none
theorem takeS_op {o : UInt8} (h : o.toNat ≤ 2) (r : Tx) : takeS (opS o ++ r) = some (o, r) := by
  rcases op_cases h with rfl | rfl | rfl <;> rfl
theorem takeS_inv {s r : Tx} {o : UInt8} (h : takeS s = some (o, r)) : o.toNat ≤ 2 ∧ s = opS o ++ r := by
  unfold takeS at h
  split at h <;> cases h <;> exact ⟨by decide, rfl⟩
theorem opS_len (o : UInt8) : 1 ≤ (opS o).length ∧ (opS o).length ≤ 2 := by
  unfold opS
  split
  · simp
  · split <;> simp
theorem opS_sgn {o : UInt8} {c : UInt8} {r : Tx} (h : opS o = c :: r) : sgn c = true := by
  unfold opS at h
  split at h
  · cases h; rfl
  · split at h <;> cases h <;> rfl
/-- the value in quotes that a text begins with, if it may be. -/
def takeW (s : Tx) : Option (Tx × Tx) :=
  match takeV s with
  | none => none
  | some (v, t) => if mayV0 v then some (v, t) else none
theorem takeW_quote {v : Tx} (h : mayV0 v = true) (t : Tx) : takeW (quote v ++ t) = some (v, t) := by
  unfold takeW
  rw [takeV_quote]
  simp only [h, if_true]
theorem takeW_inv {s v t : Tx} (h : takeW s = some (v, t)) : s = quote v ++ t ∧ mayV0 v = true := by
  unfold takeW at h
  cases hv : takeV s with
  | none => rw [hv] at h; cases h
  | some p =>
    obtain ⟨v', t'⟩ := p
    rw [hv] at h
    simp only at h
    split at h
    · rename_i hm
      cases h
      exact ⟨takeV_inv hv, hm⟩
    · cases h
/-- what stands ahead of the first sign, and from there on. -/
def cutS : Tx → Tx × Tx
  | [] => ([], [])
  | c :: t => if sgn c then ([], c :: t) else (c :: (cutS t).1, (cutS t).2)
theorem cutS_eq : ∀ (s : Tx), s = (cutS s).1 ++ (cutS s).2
  | [] => rfl
  | c :: t => by
    rw [cutS]
    split
    · rfl
    · show c :: t = c :: ((cutS t).1 ++ (cutS t).2)
      rw [← cutS_eq t]
theorem cutS_at : ∀ (n : Tx) {c : UInt8} (r : Tx), (∀ x ∈ n, sgn x = false) → sgn c = true → cutS (n ++ c :: r) = (n, c :: r)
  | [], c, r, _, h => by
    show cutS (c :: r) = _
    rw [cutS, if_pos h]
  | d :: n, c, r, hn, h => by
    rw [List.cons_append, cutS, if_neg (by rw [hn d (by simp)]; simp), cutS_at n r (fun x hx => hn x (List.mem_cons_of_mem _ hx)) h]
/-- a matcher that a text begins with. -/
def takeM (s : Tx) : Option (Mt × Tx) :=
  match takeS (cutS s).2 with
  | none => none
  | some (o, r) => match takeW r with
    | none => none
    | some (v, t) => some (((cutS s).1, o, v), t)
theorem takeM_item {x : Mt} (t : Tx) (h : mayM1 x = true) : takeM (itemM x ++ t) = some (x, t) := by
  obtain ⟨h1, h2, h3⟩ := mayM1_iff.1 h
  obtain ⟨n, o, v⟩ := x
  have hc : cutS (itemM (n, o, v) ++ t) = (n, opS o ++ quote v ++ t) := by
    cases ho : opS o with
    | nil => have := opS_len o; rw [ho] at this; simp at this
    | cons c r =>
      have := cutS_at n (c := c) (r ++ quote v ++ t) (mayN_sgn h2) (opS_sgn ho)
      unfold itemM
      simp only [ho]
      simpa using this
  unfold takeM
  rw [hc]
  simp only
  rw [List.append_assoc, takeS_op h1]
  simp only
  rw [takeW_quote h3]
theorem takeM_inv {s : Tx} {x : Mt} {t : Tx} (h : takeM s = some (x, t)) : s = itemM x ++ t := by
  unfold takeM at h
  have hc := cutS_eq s
  cases hs : takeS (cutS s).2 with
  | none => rw [hs] at h; cases h
  | some p =>
    obtain ⟨o, r⟩ := p
    rw [hs] at h
    simp only at h
    cases hv : takeW r with
    | none => rw [hv] at h; cases h
    | some q =>
      obtain ⟨v, u⟩ := q
      rw [hv] at h
      cases h
      conv => lhs; rw [hc, (takeS_inv hs).2, (takeW_inv hv).1]
      simp [itemM]
theorem itemM_len (x : Mt) : x.1.length + x.2.2.length + 3 ≤ (itemM x).length ∧ (itemM x).length ≤ x.1.length + 2 * x.2.2.length + 4 := by
  obtain ⟨n, o, v⟩ := x
  have h1 := opS_len o
  have h2 := (item_len ([], v)).1
  have h3 := quote_len v
  unfold item at h2
  unfold itemM
  simp at h2 ⊢
  omega
/-- matcher by matcher. -/
def goM : Nat → Tx → List Mt → Tx → Option (List Mt × Tx)
  | 0, _, _, _ => none
  | f + 1, a, m, s => if Lib.hasPrefix s [125] then some (m, s.drop 1) else if Lib.hasPrefix s a then (match takeM (s.drop a.length) with
    | none => none
    | some (x, u) => if mayM (m ++ [x]) then goM f [44] (m ++ [x]) u else none) else none
def parseM (s : Tx) : Option (List Mt × Tx) := if Lib.hasPrefix s [123] then goM 8 [] [] (s.drop 1) else none
theorem pre_one (c d : UInt8) (s : Tx) : Lib.hasPrefix (c :: s) [d] = (d == c) := by simp [Lib.hasPrefix, List.isPrefixOf]
theorem preK_nil (d : UInt8) : Lib.hasPrefix [] [d] = false := rfl
theorem pre_of_one {s : Tx} {d : UInt8} (h : Lib.hasPrefix s [d] = true) : ∃ r, s = d :: r := by
  cases s with
  | nil => rw [preK_nil] at h; cases h
  | cons c r =>
    rw [pre_one] at h
    exact ⟨r, by rw [beq_iff_eq.1 h]⟩
theorem itemM_head {x : Mt} {s : Tx} {d : UInt8} (h : mayM1 x = true) (hd : nmc d = false) : Lib.hasPrefix (itemM x ++ s) [d] = false := by
  obtain ⟨n, o, v⟩ := x
  have hn := (mayM1_iff.1 h).2.1
  cases n with
  | nil => exact absurd (show mayN [] = true from hn) (by decide)
  | cons c n =>
    have hc := mayN_all hn c (by simp)
    show Lib.hasPrefix (c :: _) [d] = false
    rw [pre_one]
    simp only [beq_eq_false_iff_ne, ne_eq]
    rintro rfl
    rw [hc] at hd
    cases hd
theorem goM_back (t : Tx) : ∀ (m l : List Mt) (f : Nat) (a : Tx), m ≠ [] → m.length + 1 ≤ f → mayM (l ++ m) = true → (a = [] ∨ a = [44]) → goM f a l (a ++ (Lib.join (m.map itemM) [44] ++ 125 :: t)) = some (l ++ m, t)
  | [], _, _, _, h, _, _, _ => absurd rfl h
  | x :: m, l, 0, _, _, hf, _, _ => by simp at hf
  | x :: m, l, f + 1, a, _, hf, hm, ha => by
    have hx : mayM1 x = true := (mayM_iff.1 hm).2 x (by simp)
    have hl1 : mayM (l ++ [x]) = true := by
      refine mayM_left (m := m) ?_
      simpa using hm
    have hp1 : Lib.hasPrefix (a ++ (Lib.join ((x :: m).map itemM) [44] ++ 125 :: t)) [125] = false := by
      rcases ha with rfl | rfl
      · rw [List.nil_append, List.map_cons, Lib.join_cons, List.append_assoc]
        exact itemM_head hx (by decide)
      · rfl
    have hp2 : Lib.hasPrefix (a ++ (Lib.join ((x :: m).map itemM) [44] ++ 125 :: t)) a = true := by
      rcases ha with rfl | rfl
      · simp [Lib.hasPrefix]
      · rw [List.singleton_append, pre_one]; rfl
    rw [goM, hp1, hp2, List.drop_left]
    simp only [if_true, Bool.false_eq_true, if_false]
    by_cases h0 : m = []
    · subst h0
      rw [List.map_singleton, Lib.join_one, takeM_item _ hx]
      simp only [hl1, if_true]
      obtain ⟨g, rfl⟩ : ∃ g, f = g + 1 := ⟨f - 1, by simp at hf; omega⟩
      rw [goM, pre_one]
      rfl
    · rw [List.map_cons, join2 _ _ (by simpa using h0), List.append_assoc, List.cons_append, takeM_item _ hx]
      simp only [hl1, if_true]
      have := goM_back t m (l ++ [x]) f [44] h0 (by simp at hf; omega) (by simpa using hm) (.inr rfl)
      simpa using this
theorem goM_inv : ∀ (f : Nat) (a : Tx) (l : List Mt) (s : Tx) (r : List Mt) (t : Tx), goM f a l s = some (r, t) → mayM l = true → (a = [] ∨ a = [44]) → mayM r = true ∧ ((r = l ∧ s = 125 :: t) ∨ ∃ m, m ≠ [] ∧ r = l ++ m ∧ s = a ++ (Lib.join (m.map itemM) [44] ++ 125 :: t))
  | 0, _, _, _, _, _, h, _, _ => by cases h
  | f + 1, a, l, s, r, t, h, hl, ha => by
    rw [goM] at h
    split at h
    · rename_i hp
      obtain ⟨r', rfl⟩ := pre_of_one hp
      cases h
      exact ⟨hl, .inl ⟨rfl, rfl⟩⟩
    · split at h
      · rename_i hp
        have hs : s = a ++ s.drop a.length := by
          rcases ha with rfl | rfl
          · rfl
          · obtain ⟨r', rfl⟩ := pre_of_one hp
            rfl
        cases hx : takeM (s.drop a.length) with
        | none => rw [hx] at h; cases h
        | some p =>
          obtain ⟨x, u⟩ := p
          rw [hx] at h
          simp only at h
          rw [takeM_inv hx] at hs
          split at h
          · rename_i hm
            obtain ⟨h1, h2⟩ := goM_inv f [44] (l ++ [x]) u r t h hm (.inr rfl)
            refine ⟨h1, .inr ?_⟩
            rcases h2 with ⟨h3, h4⟩ | ⟨m, h2, h3, h4⟩
            · refine ⟨[x], by simp, h3, ?_⟩
              rw [hs, h4, List.map_singleton, Lib.join_one]
            · refine ⟨x :: m, by simp, by rw [h3]; simp, ?_⟩
              rw [hs, h4, List.map_cons, join2 _ _ (by simpa using h2)]
              simp
          · cases h
      · cases h
theorem parseM_back {m : List Mt} (t : Tx) (h : mayM m = true) : parseM (printM m ++ t) = some (m, t) := by
  show parseM (123 :: (Lib.join (m.map itemM) [44] ++ [125] ++ t)) = _
  unfold parseM
  rw [pre_one, beq_self_eq_true, if_pos rfl, List.drop_succ_cons, List.drop_zero, List.append_assoc]
  cases m with
  | nil => rfl
  | cons x m =>
    have hl := mayM_len h
    have := goM_back t (x :: m) [] 8 [] (by simp) (by omega) h (.inl rfl)
    simpa using this
theorem parseM_inv {s : Tx} {m : List Mt} {t : Tx} (h : parseM s = some (m, t)) : mayM m = true ∧ s = printM m ++ t := by
  unfold parseM at h
  split at h
  · rename_i hp
    obtain ⟨r, rfl⟩ := pre_of_one hp
    rw [List.drop_succ_cons, List.drop_zero] at h
    obtain ⟨h1, h2⟩ := goM_inv _ _ _ _ _ _ h (by decide) (.inl rfl)
    refine ⟨h1, ?_⟩
    rcases h2 with ⟨h3, h4⟩ | ⟨m', _, h3, h4⟩
    · subst h3
      rw [h4]
      rfl
    · rw [h3, h4]
      simp [printM]
  · cases h
/-- the document's own way. -/
def cutR : Tx → Tx × Tx
  | [] => ([], [])
  | c :: t => if nmc c then (c :: (cutR t).1, (cutR t).2) else ([], c :: t)
theorem cutR_eq : ∀ (s : Tx), s = (cutR s).1 ++ (cutR s).2
  | [] => rfl
  | c :: t => by
    rw [cutR]
    split
    · show c :: t = c :: ((cutR t).1 ++ (cutR t).2)
      rw [← cutR_eq t]
    · rfl
theorem cutR_at : ∀ (n : Tx) {c : UInt8} (r : Tx), (∀ x ∈ n, nmc x = true) → nmc c = false → cutR (n ++ c :: r) = (n, c :: r)
  | [], c, r, _, h => by
    show cutR (c :: r) = _
    rw [cutR, if_neg (by rw [h]; simp)]
  | d :: n, c, r, hn, h => by
    rw [List.cons_append, cutR, if_pos (hn d (by simp)), cutR_at n r (fun x hx => hn x (List.mem_cons_of_mem _ hx)) h]
theorem cutR_len (s : Tx) : (cutR s).1.length ≤ s.length := by
  have := congrArg List.length (cutR_eq s)
  rw [List.length_append] at this
  omega
theorem cutR_take (s : Tx) : (cutR s).1 = s.take (cutR s).1.length ∧ (cutR s).2 = s.drop (cutR s).1.length := by
  have h := cutR_eq s
  generalize (cutR s).1 = a at *
  generalize (cutR s).2 = b at *
  subst h
  simp
def takeR (s : Tx) : Option (Mt × Tx) :=
  match takeS (cutR s).2 with
  | none => none
  | some (o, r) => match takeV r with
    | none => none
    | some (v, t) => some (((cutR s).1, o, v), t)
theorem opS_nmc {o : UInt8} {c : UInt8} {r : Tx} (h : opS o = c :: r) : nmc c = false := by
  unfold opS at h
  split at h
  · cases h; rfl
  · split at h <;> cases h <;> rfl
theorem takeR_item {x : Mt} (t : Tx) (h : mayM1 x = true) : takeR (itemM x ++ t) = some (x, t) := by
  obtain ⟨h1, h2, h3⟩ := mayM1_iff.1 h
  obtain ⟨n, o, v⟩ := x
  have hc : cutR (itemM (n, o, v) ++ t) = (n, opS o ++ quote v ++ t) := by
    cases ho : opS o with
    | nil => have := opS_len o; rw [ho] at this; simp at this
    | cons c r =>
      have := cutR_at n (c := c) (r ++ quote v ++ t) (mayN_all h2) (opS_nmc ho)
      unfold itemM
      simp only [ho]
      simpa using this
  unfold takeR
  rw [hc]
  simp only
  rw [List.append_assoc, takeS_op h1]
  simp only
  rw [takeV_quote]
theorem takeR_inv {s : Tx} {x : Mt} {t : Tx} (h : takeR s = some (x, t)) : s = itemM x ++ t := by
  unfold takeR at h
  have hc := cutR_eq s
  cases hs : takeS (cutR s).2 with
  | none => rw [hs] at h; cases h
  | some p =>
    obtain ⟨o, r⟩ := p
    rw [hs] at h
    simp only at h
    cases hv : takeV r with
    | none => rw [hv] at h; cases h
    | some q =>
      obtain ⟨v, u⟩ := q
      rw [hv] at h
      cases h
      conv => lhs; rw [hc, (takeS_inv hs).2, takeV_inv hv]
      simp [itemM]
def goQ : Nat → List Mt → Tx → Option (List Mt × Tx)
  | 0, _, _ => none
  | f + 1, m, s => match takeR s with
    | none => none
    | some (_, []) => none
    | some (x, c :: u) => if 6 < m.length + 1 then none else if c = 125 then (if mayM (m ++ [x]) then some (m ++ [x], u) else none) else if c = 44 then goQ f (m ++ [x]) u else none
def parseQ (s : Tx) : Option (List Mt × Tx) :=
  match s with
  | c :: d :: t => if c = 123 then (if d = 125 then some ([], t) else goQ 7 [] (d :: t)) else none
  | _ => none
theorem goQ_back (t : Tx) : ∀ (m l : List Mt) (f : Nat), m ≠ [] → m.length ≤ f → mayM (l ++ m) = true → goQ f l (Lib.join (m.map itemM) [44] ++ 125 :: t) = some (l ++ m, t)
  | [], _, _, h, _, _ => absurd rfl h
  | x :: m, l, 0, _, hf, _ => by simp at hf
  | x :: m, l, f + 1, _, hf, hm => by
    have hx : mayM1 x = true := (mayM_iff.1 hm).2 x (by simp)
    have hl6 := mayM_len hm
    simp at hl6
    by_cases h0 : m = []
    · subst h0
      rw [List.map_singleton, Lib.join_one, goQ, takeR_item _ hx]
      simp only [hm, if_true]
      rw [if_neg (by simp at hl6; omega)]
    · rw [List.map_cons, join2 _ _ (by simpa using h0), List.append_assoc, List.cons_append, goQ, takeR_item _ hx]
      simp only [if_true]
      rw [if_neg (by omega), if_neg (by decide), goQ_back t m (l ++ [x]) f h0 (by simpa using hf) (by simpa using hm)]
      simp
theorem goQ_inv : ∀ (f : Nat) (l : List Mt) (s : Tx) (r : List Mt) (t : Tx), goQ f l s = some (r, t) → mayM r = true ∧ ∃ m, m ≠ [] ∧ r = l ++ m ∧ s = Lib.join (m.map itemM) [44] ++ 125 :: t
  | 0, _, _, _, _, h => by cases h
  | f + 1, l, s, r, t, h => by
    rw [goQ] at h
    cases hx : takeR s with
    | none => rw [hx] at h; cases h
    | some p =>
      obtain ⟨x, u⟩ := p
      rw [hx] at h
      cases u with
      | nil => cases h
      | cons c u =>
        simp only at h
        have hs := takeR_inv hx
        split at h
        · cases h
        · split at h
          · rename_i hc
            subst hc
            split at h
            · rename_i hm
              cases h
              exact ⟨hm, [x], by simp, rfl, by rw [hs, List.map_singleton, Lib.join_one]⟩
            · cases h
          · split at h
            · rename_i hc
              subst hc
              obtain ⟨h1, m, h2, h3, h4⟩ := goQ_inv f _ _ _ _ h
              refine ⟨h1, x :: m, by simp, by rw [h3]; simp, ?_⟩
              rw [hs, h4, List.map_cons, join2 _ _ (by simpa using h2)]
              simp
            · cases h
theorem parseQ_cons (d : UInt8) (t : Tx) : parseQ (123 :: d :: t) = if d = 125 then some ([], t) else goQ 7 [] (d :: t) := by simp [parseQ]
theorem parseQ_back {m : List Mt} (t : Tx) (h : mayM m = true) : parseQ (printM m ++ t) = some (m, t) := by
  show parseQ (123 :: (Lib.join (m.map itemM) [44] ++ [125] ++ t)) = _
  rw [List.append_assoc]
  cases m with
  | nil => rfl
  | cons x m =>
    have hx : mayM1 x = true := (mayM_iff.1 h).2 x (by simp)
    have hg := goQ_back t (x :: m) [] 7 (by simp) (by have := mayM_len h; omega) h
    have hp : Lib.hasPrefix (Lib.join ((x :: m).map itemM) [44] ++ ([125] ++ t)) [125] = false := by
      rw [List.map_cons, Lib.join_cons, List.append_assoc]
      exact itemM_head hx (by decide)
    have hg' : goQ 7 [] (Lib.join ((x :: m).map itemM) [44] ++ ([125] ++ t)) = some (x :: m, t) := hg
    cases hr : (Lib.join ((x :: m).map itemM) [44] ++ ([125] ++ t) : Tx) with
    | nil => simp at hr
    | cons d u =>
      rw [hr] at hp hg'
      rw [pre_one] at hp
      rw [parseQ_cons, if_neg (by rintro rfl; simp at hp)]
      exact hg'
theorem parseQ_inv {s : Tx} {m : List Mt} {t : Tx} (h : parseQ s = some (m, t)) : mayM m = true ∧ s = printM m ++ t := by
  match s, h with
  | c :: d :: u, h =>
    unfold parseQ at h
    simp only at h
    split at h
    · rename_i hc
      subst hc
      split at h
      · rename_i hd
        subst hd
        cases h
        exact ⟨by decide, rfl⟩
      · obtain ⟨h1, m', _, h3, h4⟩ := goQ_inv _ _ _ _ _ h
        refine ⟨h1, ?_⟩
        rw [h4, h3]
        simp [printM]
    · cases h
theorem parseQ_eq (s : Tx) : parseQ s = parseM s := by
  cases h1 : parseQ s with
  | some p =>
    obtain ⟨m, t⟩ := p
    obtain ⟨hm, e⟩ := parseQ_inv h1
    rw [e, parseM_back t hm]
  | none =>
    cases h2 : parseM s with
    | none => rfl
    | some p =>
      obtain ⟨m, t⟩ := p
      obtain ⟨hm, e⟩ := parseM_inv h2
      rw [e, parseQ_back t hm] at h1
      cases h1
/-- the text in quotes that a text begins with, as it stands: behind the first quote. -/
def scanQ : Tx → Option (Tx × Tx)
  | [] => none
  | [c] => if c = 34 then some ([34], []) else none
  | c :: d :: t => if c = 34 then some ([34], d :: t) else if c = 92 then (scanQ t).map (fun p => (c :: d :: p.1, p.2)) else (scanQ (d :: t)).map (fun p => (c :: p.1, p.2))
theorem scanQ_nil : scanQ [] = none := by rw [scanQ]
theorem scanQ_q (t : Tx) : scanQ (34 :: t) = some ([34], t) := by cases t <;> simp [scanQ]
theorem scanQ_b0 : scanQ [92] = none := by simp [scanQ]
theorem scanQ_b (d : UInt8) (t : Tx) : scanQ (92 :: d :: t) = (scanQ t).map (fun p => (92 :: d :: p.1, p.2)) := by simp [scanQ]
theorem scanQ_c {c : UInt8} (t : Tx) (h1 : c ≠ 34) (h2 : c ≠ 92) : scanQ (c :: t) = (scanQ t).map (fun p => (c :: p.1, p.2)) := by
  cases t with
  | nil => simp [scanQ, h1]
  | cons d t => simp [scanQ, h1, h2]
theorem scan_unq : ∀ (n : Nat) (s acc : Tx), s.length ≤ n → (scanQ s = none → unq acc s = none) ∧ ∀ q t, scanQ s = some (q, t) → s = q ++ t ∧ ∀ u, unq acc (q ++ u) = (unq acc q).map (fun p => (p.1, u))
  | _, [], acc, _ => ⟨fun _ => unq_nil acc, (fun q t h => by rw [scanQ_nil] at h; cases h)⟩
  | 0, c :: s, _, hn => by simp at hn
  | n + 1, c :: s, acc, hn => by
    simp at hn
    by_cases h1 : c = 34
    · subst h1
      rw [scanQ_q]
      refine ⟨(fun h => by cases h), fun q t h => ?_⟩
      cases h
      refine ⟨rfl, fun u => ?_⟩
      show unq acc (34 :: u) = _
      rw [unq_q, unq_q]
      rfl
    · by_cases h2 : c = 92
      · subst h2
        cases s with
        | nil =>
          rw [scanQ_b0]
          exact ⟨fun _ => unq_b0 acc, (fun q t h => by cases h)⟩
        | cons d s =>
          rw [scanQ_b]
          simp at hn
          cases hd : spc d
          · obtain ⟨i1, i2⟩ := scan_unq n s acc (by omega)
            refine ⟨fun _ => unq_bad acc s hd, fun q t h => ?_⟩
            cases hs : scanQ s with
            | none => rw [hs] at h; cases h
            | some p =>
              obtain ⟨q', t'⟩ := p
              rw [hs] at h
              cases h
              obtain ⟨e1, _⟩ := i2 _ _ hs
              refine ⟨by simp [← e1], fun u => ?_⟩
              show unq acc (92 :: d :: (q' ++ u)) = (unq acc (92 :: d :: q')).map _
              rw [unq_bad _ _ hd, unq_bad _ _ hd]
              rfl
          · obtain ⟨i1, i2⟩ := scan_unq n s (acc ++ [d]) (by omega)
            refine ⟨fun h => ?_, fun q t h => ?_⟩
            · rw [unq_b _ _ hd]
              cases hs : scanQ s with
              | none => exact i1 hs
              | some p => rw [hs] at h; cases h
            · cases hs : scanQ s with
              | none => rw [hs] at h; cases h
              | some p =>
                obtain ⟨q', t'⟩ := p
                rw [hs] at h
                cases h
                obtain ⟨e1, e2⟩ := i2 _ _ hs
                refine ⟨by simp [← e1], fun u => ?_⟩
                show unq acc (92 :: d :: (q' ++ u)) = (unq acc (92 :: d :: q')).map _
                rw [unq_b _ _ hd, unq_b _ _ hd, e2]
      · rw [scanQ_c s h1 h2]
        obtain ⟨i1, i2⟩ := scan_unq n s (acc ++ [c]) (by omega)
        refine ⟨fun h => ?_, fun q t h => ?_⟩
        · rw [unq_c _ _ h1 h2]
          cases hs : scanQ s with
          | none => exact i1 hs
          | some p => rw [hs] at h; cases h
        · cases hs : scanQ s with
          | none => rw [hs] at h; cases h
          | some p =>
            obtain ⟨q', t'⟩ := p
            rw [hs] at h
            cases h
            obtain ⟨e1, e2⟩ := i2 _ _ hs
            refine ⟨by simp [← e1], fun u => ?_⟩
            show unq acc (c :: (q' ++ u)) = (unq acc (c :: q')).map _
            rw [unq_c _ _ h1 h2, unq_c _ _ h1 h2, e2]
/-- the text in quotes that a text begins with, and what stands behind it; ahead of all, if there is none. -/
def cutQ (s : Tx) : Tx × Tx :=
  match s with
  | 34 :: r => (match scanQ r with
    | none => ([], s)
    | some (q, t) => (34 :: q, t))
  | _ => ([], s)
theorem cutQ_eq (s : Tx) : s = (cutQ s).1 ++ (cutQ s).2 := by
  unfold cutQ
  split
  · rename_i r
    cases h : scanQ r with
    | none => rfl
    | some p =>
      obtain ⟨q, t⟩ := p
      have := ((scan_unq r.length r [] (Nat.le_refl _)).2 q t h).1
      rw [this]
      rfl
  · rfl
def around (q : Tx) : Tx := [123, 118, 97, 108, 117, 101, 61] ++ (q ++ [125])
/-- what layer 7 makes of a value's text. -/
theorem parse_around {r q t : Tx} (h : scanQ r = some (q, t)) : parseP (around (34 :: q)) = match unq [] q with
    | none => none
    | some (v, _) => if mayV v then some ([([118, 97, 108, 117, 101], v)], []) else none := by
  have hu := ((scan_unq r.length r [] (Nat.le_refl _)).2 q t h).2 [125]
  show parseP (123 :: 118 :: ([97, 108, 117, 101] ++ 61 :: (34 :: q ++ [125]))) = _
  rw [parse_cons, if_neg (by decide), goP]
  have hc : cutE (118 :: ([97, 108, 117, 101] ++ 61 :: (34 :: q ++ [125]))) = some ([118, 97, 108, 117, 101], 34 :: q ++ [125]) := cutE_at [118, 97, 108, 117, 101] (34 :: q ++ [125]) (by decide)
  have ht : takeL (118 :: ([97, 108, 117, 101] ++ 61 :: (34 :: q ++ [125]))) = match unq [] q with
      | none => none
      | some (v, _) => some (([118, 97, 108, 117, 101], v), [125]) := by
    unfold takeL
    rw [hc]
    simp only
    have : takeV (34 :: q ++ [125]) = unq [] (q ++ [125]) := by
      show takeV (34 :: (q ++ [125])) = _
      rw [takeV, if_pos rfl]
    rw [this, hu]
    cases unq [] q <;> rfl
  rw [ht]
  cases unq [] q with
  | none => rfl
  | some p =>
    obtain ⟨v, e⟩ := p
    simp only
    have hm : mayL ([] ++ [([118, 97, 108, 117, 101], v)]) = mayV v := by
      cases hv : mayV v
      · cases h2 : mayL ([] ++ [([118, 97, 108, 117, 101], v)])
        · rfl
        · have := (mayL_mem h2 (x := ([118, 97, 108, 117, 101], v)) (by simp)).2
          simp only at this
          rw [hv] at this
          cases this
      · rw [mayL_iff]
        refine ⟨by simp, fun x hx => ?_, fun i x y hx hy => ?_⟩
        · simp at hx
          subst hx
          unfold mayE
          simp only [hv]
          decide
        · simp at hy
    rw [hm]
    cases mayV v <;> simp
theorem parse_around0 : parseP (around []) = none := by decide
/-- what the program makes of a value's text is what the chapter does. -/
theorem takeW_cut (s : Tx) : (cutQ s).1 = [34, 34] ∧ takeW s = some ([], (cutQ s).2) ∨ (cutQ s).1 ≠ [34, 34] ∧
    ((parseP (around (cutQ s).1) = none ∧ takeW s = none) ∨ ∃ v, parseP (around (cutQ s).1) = some ([([118, 97, 108, 117, 101], v)], []) ∧ takeW s = some (v, (cutQ s).2)) := by
  unfold cutQ
  split
  · rename_i r
    have hv : takeV (34 :: r) = unq [] r := by rw [takeV, if_pos rfl]
    cases h : scanQ r with
    | none =>
      refine .inr ⟨by simp, .inl ⟨parse_around0, ?_⟩⟩
      unfold takeW
      rw [hv, (scan_unq r.length r [] (Nat.le_refl _)).1 h]
    | some p =>
      obtain ⟨q, t⟩ := p
      obtain ⟨e1, e2⟩ := (scan_unq r.length r [] (Nat.le_refl _)).2 q t h
      have hw : takeW (34 :: r) = match unq [] q with
          | none => none
          | some (v, _) => if mayV0 v then some (v, t) else none := by
        unfold takeW
        rw [hv, e1, e2 t]
        cases unq [] q <;> rfl
      have hpa := parse_around h
      simp only
      rw [hw, hpa]
      by_cases hq : q = [34]
      · subst hq
        refine .inl ⟨rfl, ?_⟩
        rw [unq_q]
        rfl
      · refine .inr ⟨by simpa using hq, ?_⟩
        cases hu : unq [] q with
        | none => exact .inl ⟨rfl, rfl⟩
        | some p =>
          obtain ⟨v, e⟩ := p
          simp only
          have hv0 : v ≠ [] := by
            rintro rfl
            have h3 := e2 []
            rw [List.append_nil, hu] at h3
            cases h3
            obtain ⟨u, e4, e5⟩ := unq_inv q.length q [] [] [] (Nat.le_refl _) hu
            simp at e4
            subst e4
            exact hq e5
          have hm : mayV0 v = mayV v := by
            rw [mayV0_or]
            cases v with
            | nil => exact absurd rfl hv0
            | cons c v => rfl
          rw [hm]
          cases mayV v with
          | false => exact .inl ⟨by simp, by simp⟩
          | true => exact .inr ⟨v, by simp, by simp⟩
  · rename_i hn
    refine .inr ⟨by simp, .inl ⟨parse_around0, ?_⟩⟩
    unfold takeW
    have : takeV s = none := by
      cases s with
      | nil => rfl
      | cons c r =>
        rw [takeV, if_neg (fun e => hn r (by rw [e]))]
    rw [this]
/-- whether they hold. -/
theorem does_app (a b : List Mt) (l : List Lb) : doesM (a ++ b) l = (doesM a l && doesM b l) := by
  unfold doesM
  rw [List.all_append]
theorem does_rev (a : List Mt) (l : List Lb) : doesM a.reverse l = doesM a l := by
  unfold doesM
  rw [List.all_reverse]
theorem does_nil (l : List Lb) : doesM [] l = true := rfl
theorem pre_self (a : Tx) : Lib.hasPrefix a a = true := by
  induction a with
  | nil => simp [Lib.hasPrefix]
  | cons c a ih => simp [Lib.hasPrefix]
theorem pre_empty (a : Tx) : Lib.hasPrefix a [] = true := by cases a <;> simp [Lib.hasPrefix]
theorem value_at : ∀ (l : List Lb) (i : Nat) (x : Lb), l[i]? = some x → (∀ k y, k < i → l[k]? = some y → y.1 ≠ x.1) → valueL l x.1 = x.2
  | [], _, _, h, _ => by simp at h
  | z :: l, 0, x, h, _ => by
    simp at h
    subst h
    simp [valueL]
  | z :: l, i + 1, x, h, hn => by
    have hz : z.1 ≠ x.1 := hn 0 z (by omega) rfl
    have := value_at l i x (by simpa using h) (fun k y hk hy => hn (k + 1) y (by omega) (by simpa using hy))
    simpa [valueL, hz] using this
end Go.Proofs.YtjhodmpgggaknaaGreatDoor.Mat
