/- Plain mathematics of labels: the order of texts, of labels, of rows; a value by its name. No program in it. -/
import Derived.Test.YtlggdeadkebgiaaP
namespace Go.Proofs.Ytlggdeadkebgiaa

/-- below 0: less; 0: the same. -/
structure Ord3 {α : Type} (c : α → α → Int) : Prop where
  swap : ∀ x y, c y x = - c x y
  zero : ∀ x y, c x y = 0 → x = y
  trans : ∀ x y z, c x y < 0 → c y z < 0 → c x z < 0
theorem Ord3.refl {α : Type} {c : α → α → Int} (h : Ord3 c) (x : α) : c x x = 0 := by have := h.swap x x; omega
def lex {α : Type} (c : α → α → Int) : List α → List α → Int
  | [], [] => 0
  | [], _ :: _ => -1
  | _ :: _, [] => 1
  | x :: a, y :: b => if c x y ≠ 0 then c x y else lex c a b
theorem lex_swap {α : Type} {c : α → α → Int} (h : Ord3 c) : ∀ a b, lex c b a = - lex c a b
  | [], [] => rfl
  | [], _ :: _ => rfl
  | _ :: _, [] => rfl
  | x :: a, y :: b => by
    have h1 := h.swap x y
    rw [lex, lex, lex_swap h a b]
    by_cases h0 : c x y = 0
    · rw [if_neg (by omega), if_neg (by omega)]
    · rw [if_pos (by omega), if_pos h0, h1]
theorem lex_zero {α : Type} {c : α → α → Int} (h : Ord3 c) : ∀ a b, lex c a b = 0 → a = b
  | [], [], _ => rfl
  | [], _ :: _, e => by simp [lex] at e
  | _ :: _, [], e => by simp [lex] at e
  | x :: a, y :: b, e => by
    rw [lex] at e
    by_cases h0 : c x y = 0
    · rw [if_neg (by omega)] at e
      rw [h.zero x y h0, lex_zero h a b e]
    · rw [if_pos h0] at e
      exact absurd e h0
theorem lex_trans {α : Type} {c : α → α → Int} (h : Ord3 c) : ∀ a b d, lex c a b < 0 → lex c b d < 0 → lex c a d < 0
  | [], [], d, e, _ => by simp [lex] at e
  | [], _ :: _, [], _, e => by simp [lex] at e
  | [], _ :: _, _ :: _, _, _ => by simp [lex]
  | _ :: _, [], _, e, _ => by simp [lex] at e
  | _ :: _, _ :: _, [], _, e => by simp [lex] at e
  | x :: a, y :: b, z :: d, e1, e2 => by
    rw [lex] at e1 e2 ⊢
    by_cases h1 : c x y = 0
    · have := h.zero x y h1
      subst this
      rw [if_neg (by omega)] at e1
      by_cases h2 : c x z = 0
      · rw [if_neg (by omega)] at e2 ⊢
        exact lex_trans h a b d e1 e2
      · rw [if_pos h2] at e2 ⊢
        exact e2
    · rw [if_pos h1] at e1
      by_cases h2 : c y z = 0
      · have := h.zero y z h2
        subst this
        rw [if_pos h1]
        exact e1
      · rw [if_pos h2] at e2
        have := h.trans x y z e1 e2
        rw [if_pos (by omega)]
        exact this
theorem lex_ord {α : Type} {c : α → α → Int} (h : Ord3 c) : Ord3 (lex c) := ⟨lex_swap h, lex_zero h, lex_trans h⟩
theorem lex_left {α : Type} {c : α → α → Int} (h : Ord3 c) : ∀ (a b d : List α), lex c (a ++ b) (a ++ d) = lex c b d
  | [], _, _ => rfl
  | x :: a, b, d => by
    rw [List.cons_append, List.cons_append, lex, if_neg (by rw [h.refl]; simp), lex_left h a b d]
theorem lex_snoc {α : Type} {c : α → α → Int} (h : Ord3 c) (a : List α) (x : α) : lex c a (a ++ [x]) = -1 := by
  have := lex_left h a [] [x]
  rw [List.append_nil] at this
  rw [this]
  rfl
def bc (x y : UInt8) : Int := if x < y then -1 else if y < x then 1 else 0
theorem bc_ord : Ord3 bc := by
  refine ⟨fun x y => ?_, fun x y h => ?_, fun x y z h1 h2 => ?_⟩
  · simp only [bc, UInt8.lt_iff_toNat_lt]
    split <;> split <;> (try split) <;> (try rfl) <;> omega
  · simp only [bc, UInt8.lt_iff_toNat_lt] at h
    refine UInt8.toNat_inj.1 ?_
    split at h
    · omega
    · split at h <;> omega
  · unfold bc at *
    simp only [UInt8.lt_iff_toNat_lt] at *
    split at h1
    · split at h2
      · rw [if_pos (by omega)]; decide
      · split at h2 <;> omega
    · split at h1 <;> omega
theorem cb_lex : ∀ (a b : Tx), Lib.compareBytes a b = lex bc a b
  | [], [] => rfl
  | [], _ :: _ => rfl
  | _ :: _, [] => rfl
  | x :: a, y :: b => by
    rw [Lib.compareBytes, lex, cb_lex a b]
    unfold bc
    by_cases h1 : x < y
    · simp [h1]
    · by_cases h2 : y < x
      · simp [h1, h2]
      · simp [h1, h2]
def cb (a b : Tx) : Int := Lib.compareBytes a b
theorem cb_ord : Ord3 cb := by
  have : cb = lex bc := by funext a b; exact cb_lex a b
  rw [this]
  exact lex_ord bc_ord
theorem lt_cb : ∀ (a b : Tx), a < b ↔ cb a b < 0
  | [], [] => by simp [cb, Lib.compareBytes]
  | [], _ :: _ => by simp [cb, Lib.compareBytes]
  | _ :: _, [] => by simp [cb, Lib.compareBytes]
  | x :: a, y :: b => by
    have ih := lt_cb a b
    unfold cb at ih ⊢
    rw [List.cons_lt_cons_iff, Lib.compareBytes, ih]
    by_cases h1 : x < y
    · simp [h1]
    · by_cases h2 : y < x
      · have : x ≠ y := by rintro rfl; exact h1 h2
        simp [h1, h2, this]
      · have : x = y := by
          rw [UInt8.lt_iff_toNat_lt] at h1 h2
          exact UInt8.toNat_inj.1 (by omega)
        simp [this]
theorem cb_gt (a b : Tx) : b < a ↔ 0 < cb a b := by
  rw [lt_cb b a, cb_ord.swap a b]; omega
theorem cb_eq (a b : Tx) : a = b ↔ cb a b = 0 := ⟨fun h => h ▸ cb_ord.refl a, cb_ord.zero a b⟩
theorem tx_trans {a b c : Tx} (h1 : a < b) (h2 : b < c) : a < c := (lt_cb a c).2 (cb_ord.trans a b c ((lt_cb a b).1 h1) ((lt_cb b c).1 h2))
theorem tx_ne {a b : Tx} (h : a < b) : a ≠ b := fun e => by
  have := (lt_cb a b).1 h
  rw [(cb_eq a b).1 e] at this
  omega
def cmpL (x y : Lb) : Int := if cb x.1 y.1 ≠ 0 then cb x.1 y.1 else cb x.2 y.2
theorem cmpL_ord : Ord3 cmpL := by
  refine ⟨fun x y => ?_, fun x y h => ?_, fun x y z h1 h2 => ?_⟩
  · have h1 := cb_ord.swap x.1 y.1
    have h2 := cb_ord.swap x.2 y.2
    unfold cmpL
    by_cases h0 : cb x.1 y.1 = 0
    · rw [if_neg (by omega), if_neg (by omega), h2]
    · rw [if_pos (by omega), if_pos h0, h1]
  · unfold cmpL at h
    by_cases h0 : cb x.1 y.1 = 0
    · rw [if_neg (by omega)] at h
      exact Prod.ext (cb_ord.zero _ _ h0) (cb_ord.zero _ _ h)
    · rw [if_pos h0] at h
      exact absurd h h0
  · obtain ⟨xn, xv⟩ := x
    obtain ⟨yn, yv⟩ := y
    obtain ⟨zn, zv⟩ := z
    unfold cmpL at *
    simp only at *
    by_cases e1 : cb xn yn = 0
    · have := cb_ord.zero _ _ e1
      subst this
      rw [if_neg (by omega)] at h1
      by_cases e2 : cb xn zn = 0
      · rw [if_neg (by omega)] at h2 ⊢
        exact cb_ord.trans _ _ _ h1 h2
      · rw [if_pos e2] at h2 ⊢
        exact h2
    · rw [if_pos e1] at h1
      by_cases e2 : cb yn zn = 0
      · have := cb_ord.zero _ _ e2
        subst this
        rw [if_pos e1]
        exact h1
      · rw [if_pos e2] at h2
        have := cb_ord.trans _ _ _ h1 h2
        rw [if_pos (by omega)]
        exact this
def cmpR (a b : List Lb) : Int := lex cmpL a b
theorem cmpR_ord : Ord3 cmpR := lex_ord cmpL_ord
def lessL (a b : List Lb) : Bool := decide (cmpR a b < 0)
/-- one step of a loop over both. -/
theorem less_step {a b : List Lb} {k : Nat} {x y : Lb} (ha : a[k]? = some x) (hb : b[k]? = some y) : lessL (a.drop k) (b.drop k) = if cmpL x y ≠ 0 then decide (cmpL x y < 0) else lessL (a.drop (k + 1)) (b.drop (k + 1)) := by
  obtain ⟨h1, rfl⟩ := List.getElem?_eq_some_iff.1 ha
  obtain ⟨h2, rfl⟩ := List.getElem?_eq_some_iff.1 hb
  rw [List.drop_eq_getElem_cons h1, List.drop_eq_getElem_cons h2]
  unfold lessL cmpR
  rw [lex]
  split <;> rfl
theorem less_end {a b : List Lb} {k : Nat} (h : a.length ≤ k ∨ b.length ≤ k) (ha : k ≤ a.length) (hb : k ≤ b.length) : lessL (a.drop k) (b.drop k) = decide (a.length < b.length) := by
  unfold lessL cmpR
  by_cases h1 : a.length = k
  · rw [List.drop_eq_nil_of_le (by omega)]
    by_cases h2 : b.length = k
    · rw [List.drop_eq_nil_of_le (by omega)]
      simp [lex]; omega
    · cases hd : b.drop k with
      | nil => rw [List.drop_eq_nil_iff] at hd; omega
      | cons y t => simp [lex]; omega
  · rw [List.drop_eq_nil_of_le (as := b) (by omega)]
    cases hd : a.drop k with
    | nil => rw [List.drop_eq_nil_iff] at hd; omega
    | cons y t => simp [lex]; omega
def valueL : List Lb → Tx → Tx
  | [], _ => []
  | x :: r, n => if x.1 = n then x.2 else valueL r n
theorem value_step {l : List Lb} {k : Nat} {x : Lb} (n : Tx) (hx : l[k]? = some x) : valueL (l.drop k) n = if x.1 = n then x.2 else valueL (l.drop (k + 1)) n := by
  obtain ⟨h1, rfl⟩ := List.getElem?_eq_some_iff.1 hx
  rw [List.drop_eq_getElem_cons h1]
  rfl
theorem rises_tail {x : Lb} {r : List Lb} (h : rises (x :: r) = true) : rises r = true := by
  cases r with
  | nil => rfl
  | cons y r =>
    rw [rises, Bool.and_eq_true] at h
    exact h.2
theorem rises_all : ∀ {r : List Lb} {x : Lb}, rises (x :: r) = true → ∀ y ∈ r, x.1 < y.1
  | [], _, _, _, hy => by cases hy
  | z :: r, x, h, y, hy => by
    have h1 := h
    rw [rises, Bool.and_eq_true, decide_eq_true_iff] at h1
    rcases List.mem_cons.1 hy with rfl | hy
    · exact h1.1
    · exact tx_trans h1.1 (rises_all h1.2 y hy)
theorem value_of : ∀ {l : List Lb}, rises l = true → ∀ x ∈ l, valueL l x.1 = x.2
  | [], _, _, hx => by cases hx
  | z :: r, h, x, hx => by
    rw [valueL]
    rcases List.mem_cons.1 hx with rfl | hx
    · rw [if_pos rfl]
    · rw [if_neg (tx_ne (rises_all h x hx))]
      exact value_of (rises_tail h) x hx
theorem mayL_value {l : List Lb} (h : mayL l = true) {x : Lb} (hx : x ∈ l) : valueL l x.1 = x.2 := by
  unfold mayL at h
  rw [Bool.and_eq_true] at h
  exact value_of h.2 x hx
theorem value_none : ∀ {l : List Lb} {n : Tx}, (∀ x ∈ l, x.1 ≠ n) → valueL l n = []
  | [], _, _ => rfl
  | x :: r, n, h => by
    rw [valueL, if_neg (h x (by simp)), value_none (fun y hy => h y (by simp [hy]))]
theorem mayL_found {l : List Lb} (h : mayL l = true) (n : Tx) : (l.any fun x => x.1 == n) = !(valueL l n == []) := by
  cases hf : l.any fun x => x.1 == n
  · rw [value_none]
    · rfl
    · intro x hx e
      have := List.any_eq_false.1 hf x hx
      exact this (by simpa using e)
  · obtain ⟨x, hx, e⟩ := List.any_eq_true.1 hf
    have e' : x.1 = n := by simpa using e
    subst e'
    rw [mayL_value h hx]
    have := (mayV_len (mayL_mem h hx).2).2
    cases hv : x.2 with
    | nil => exact absurd hv this
    | cons c t => rfl
/-- P7.7. -/
theorem less_asym {a b : List Lb} (h : lessL a b = true) : lessL b a = false := by
  unfold lessL at *
  rw [decide_eq_true_iff] at h
  rw [decide_eq_false_iff_not, cmpR_ord.swap a b]
  omega
theorem less_trans {a b c : List Lb} (h1 : lessL a b = true) (h2 : lessL b c = true) : lessL a c = true := by
  unfold lessL at *
  rw [decide_eq_true_iff] at *
  exact cmpR_ord.trans a b c h1 h2
theorem less_self (a : List Lb) : lessL a a = false := by
  unfold lessL
  rw [decide_eq_false_iff_not, cmpR_ord.refl]
  omega
theorem less_same (a b : List Lb) : (!lessL a b && !lessL b a) = (a == b) := by
  have hs := cmpR_ord.swap a b
  unfold lessL
  rw [hs]
  by_cases h : a = b
  · subst h
    rw [cmpR_ord.refl]
    simp
  · have h0 : cmpR a b ≠ 0 := fun e => h (cmpR_ord.zero a b e)
    have e1 : (a == b) = false := by simpa using h
    rw [e1]
    by_cases h1 : cmpR a b < 0
    · simp [h1]
    · have h2 : - cmpR a b < 0 := by omega
      rw [decide_eq_false h1, decide_eq_true h2]
      rfl
theorem less_snoc (a : List Lb) (x : Lb) : lessL a (a ++ [x]) = true := by
  unfold lessL cmpR
  rw [lex_snoc cmpL_ord]
  rfl
theorem less_cut (a : List Lb) (n v : Tx) (c : UInt8) : lessL (a ++ [(n, v)]) (a ++ [(n, v ++ [c])]) = true := by
  unfold lessL cmpR
  rw [lex_left cmpL_ord, lex]
  have h : cmpL (n, v) (n, v ++ [c]) = -1 := by
    unfold cmpL
    simp only
    rw [if_neg (by rw [cb_ord.refl]; simp)]
    show Lib.compareBytes v (v ++ [c]) = -1
    rw [cb_lex, lex_snoc bc_ord]
  rw [h]
  rfl
end Go.Proofs.Ytlggdeadkebgiaa
