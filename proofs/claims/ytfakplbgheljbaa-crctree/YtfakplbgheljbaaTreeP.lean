/- Plain mathematics of neighbours that are joined: rows of pieces of which two neighbours become one; no program is named. -/
import Derived.Test.YtfakplbgheljbaaPlain2
namespace Go.Proofs.Ytfakplbgheljbaa
/-- the p-th and the next one become one. -/
def mrg : Nat → List (List Int) → List (List Int)
  | 0, a :: b :: r => (a ++ b) :: r
  | p + 1, a :: r => a :: mrg p r
  | _, r => r
theorem mrg_length (p : Nat) : ∀ g : List (List Int), p + 1 < g.length → (mrg p g).length + 1 = g.length := by
  induction p with
  | zero =>
    intro g h
    match g, h with
    | a :: b :: r, _ => simp [mrg]
  | succ p ih =>
    intro g h
    match g, h with
    | a :: r, h => simp [mrg]; exact ih r (by simpa using h)
theorem mrg_flatten (p : Nat) : ∀ g : List (List Int), (mrg p g).flatten = g.flatten := by
  induction p with
  | zero =>
    intro g
    match g with
    | [] => rfl
    | [a] => rfl
    | a :: b :: r => simp [mrg]
  | succ p ih =>
    intro g
    match g with
    | [] => rfl
    | a :: r => simp [mrg, ih r]
theorem mrg_lt (p : Nat) : ∀ (g : List (List Int)) (k : Nat), p + 1 < g.length → k < p → (mrg p g).getD k [] = g.getD k [] := by
  induction p with
  | zero => intro g k _ h; omega
  | succ p ih =>
    intro g k h hk
    match g, h with
    | a :: r, h =>
      cases k with
      | zero => simp [mrg]
      | succ k => simp only [mrg, List.getD_cons_succ]; exact ih r k (by simpa using h) (by omega)
theorem mrg_at (p : Nat) : ∀ (g : List (List Int)), p + 1 < g.length → (mrg p g).getD p [] = g.getD p [] ++ g.getD (p + 1) [] := by
  induction p with
  | zero =>
    intro g h
    match g, h with
    | a :: b :: r, _ => simp [mrg]
  | succ p ih =>
    intro g h
    match g, h with
    | a :: r, h => simp only [mrg, List.getD_cons_succ]; exact ih r (by simpa using h)
theorem mrg_gt (p : Nat) : ∀ (g : List (List Int)) (k : Nat), p + 1 < g.length → p < k → (mrg p g).getD k [] = g.getD (k + 1) [] := by
  induction p with
  | zero =>
    intro g k h hk
    match g, h with
    | a :: b :: r, _ =>
      cases k with
      | zero => omega
      | succ k => simp [mrg]
  | succ p ih =>
    intro g k h hk
    match g, h with
    | a :: r, h =>
      cases k with
      | zero => omega
      | succ k => simp only [mrg, List.getD_cons_succ]; exact ih r k (by simpa using h) (by omega)
theorem getD_set {α : Type} (l : List α) (i k : Nat) (x d : α) (h : i < l.length) : (l.set i x).getD k d = if k = i then x else l.getD k d := by
  simp only [List.getD, List.getElem?_set]
  by_cases e : i = k
  · subst e; simp [h]
  · have : ¬ k = i := fun h => e h.symm
    simp [e, this]
/-- the row of values that belongs to these pieces, as far as there are any. -/
def Fits {α : Type} (f : List Int → α) (d : α) (g : List (List Int)) (S : List α) : Prop := ∀ i, i < g.length → S.getD i d = f (g.getD i [])
/-- behind the p-th one all is moved on by one, up to j. -/
def Moved {α : Type} (d : α) (p j : Nat) (S S' : List α) : Prop := S'.length = S.length ∧ ∀ k, S'.getD k d = if p + 1 ≤ k ∧ k < j then S.getD (k + 1) d else S.getD k d
theorem moved_refl {α : Type} (d : α) (p : Nat) (S : List α) : Moved d p (p + 1) S S := by
  refine ⟨rfl, fun k => ?_⟩
  rw [if_neg (by omega)]
theorem moved_next {α : Type} (d : α) (p j : Nat) (S S' : List α) (hp : p + 1 ≤ j) (h : Moved d p j S S') (hj : j + 1 < S.length) : Moved d p (j + 1) S (S'.set j (S.getD (j + 1) d)) := by
  obtain ⟨h1, h2⟩ := h
  refine ⟨by simp [h1], fun k => ?_⟩
  rw [getD_set _ _ _ _ _ (by omega), h2 k]
  by_cases e : k = j
  · subst e; rw [if_pos rfl, if_pos (by omega)]
  · rw [if_neg e]
    by_cases g : p + 1 ≤ k ∧ k < j
    · rw [if_pos g, if_pos (by omega)]
    · rw [if_neg g, if_neg (by omega)]
theorem moved_read {α : Type} (d : α) (p j : Nat) (S S' : List α) (h : Moved d p j S S') : S'.getD (j + 1) d = S.getD (j + 1) d := by
  rw [h.2, if_neg (by omega)]
/-- set at p, moved on behind it: it belongs to the pieces of which two are one. -/
theorem fits_mrg {α : Type} (f : List Int → α) (d : α) (g : List (List Int)) (S S' : List α) (p : Nat) (hp : p + 1 < g.length) (hl : g.length ≤ S.length) (h : Fits f d g S) (x : α) (hx : x = f (g.getD p [] ++ g.getD (p + 1) []))
    (hm : Moved d p (g.length - 1) (S.set p x) S') : Fits f d (mrg p g) S' := by
  intro i hi
  have hlen := mrg_length p g hp
  rw [hm.2 i]
  by_cases c1 : i < p
  · rw [if_neg (by omega), getD_set _ _ _ _ _ (by omega), if_neg (by omega), h i (by omega), mrg_lt p g i hp c1]
  · by_cases c2 : i = p
    · subst c2
      rw [if_neg (by omega), getD_set _ _ _ _ _ (by omega), if_pos rfl, hx, mrg_at i g hp]
    · rw [if_pos (by omega), getD_set _ _ _ _ _ (by omega), if_neg (by omega), h (i + 1) (by omega), mrg_gt p g i hp (by omega)]
theorem fits_snoc {α : Type} (f : List Int → α) (d : α) (l : List (List Int)) (k : Nat) (hk : k < l.length) (S : List α) (hS : k < S.length) (h : Fits f d (l.take k) S) : Fits f d (l.take (k + 1)) (S.set k (f (l.getD k []))) := by
  intro i hi
  have hi' : i < k + 1 := by simp at hi; omega
  rw [getD_set _ _ _ _ _ hS]
  by_cases e : i = k
  · subst e; simp [List.getD]
  · rw [if_neg e, h i (by simp; omega)]
    congr 1
    simp [List.getD, List.getElem?_take_of_lt hi', List.getElem?_take_of_lt (show i < k by omega)]
theorem fits_one {α : Type} (f : List Int → α) (d : α) (z : List Int) (S : List α) (h : Fits f d [z] S) : S.getD 0 d = f z := h 0 (by simp)
theorem flat_two (g : List (List Int)) (p : Nat) (hp : p + 1 < g.length) : (g.getD p []).length + (g.getD (p + 1) []).length ≤ g.flatten.length := by
  have h1 := flat_take g p (by omega)
  have h2 := flat_take g (p + 1) (by omega)
  have h3 : g.flatten = (g.take (p + 2)).flatten ++ (g.drop (p + 2)).flatten := by rw [← List.flatten_append, List.take_append_drop]
  rw [h3, h2, h1]
  simp
  omega
theorem sum_two (a b : List Int) : txn (8 * b.length) (sum a) ^^^ sum b = sum (a ++ b) := (sum_append a b).symm
end Go.Proofs.Ytfakplbgheljbaa
