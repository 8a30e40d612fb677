/- What a pair's nodes are; texts put together. -/
import Derived.Test.YtjhodmpgggaknaaGreatDoorZHK
import Derived.Test.YtjhodmpgggaknaaGreatDoorZGQ
import Derived.Test.YtjhodmpgggaknaaGreatDoorZSM
namespace Go.Proofs.YtjhodmpgggaknaaGreatDoor
open Go.ChangeShapes Go.WideShapes Go.ChangeAt Go.RowKit Go.Shelf Go.Maps
open Go.ChangeMaps (open_string shut_string)
namespace Pairs

theorem flat_bd : ∀ (t : Tree) (b : Nat) (x : Nd), x ∈ flat b t → 0 ≤ x.left ∧ x.left ≤ ((b + t.size : Nat) : Int) ∧ 0 ≤ x.right ∧ x.right ≤ ((b + t.size : Nat) : Int)
  | .leaf c, b, x, h => by
    simp [flat] at h
    subst h
    simp [cmpNd]
    omega
  | .neg t, b, x, h => by
    have hp := t.pos
    rw [flat] at h
    rcases List.mem_append.1 h with h | h
    · have := flat_bd t b x h
      simp only [Tree.size] at *
      omega
    · simp at h
      subst h
      simp [negNd, Tree.size]
      omega
  | .bin o l r, b, x, h => by
    have hp := l.pos
    have hp2 := r.pos
    rw [flat] at h
    rcases List.mem_append.1 h with h | h
    · rcases List.mem_append.1 h with h | h
      · have := flat_bd l b x h
        simp only [Tree.size] at *
        omega
      · have := flat_bd r (b + l.size) x h
        simp only [Tree.size] at *
        omega
    · simp at h
      subst h
      simp [binNd, Tree.size]
      omega
structure PairF (na nb bo : List Nd) (o : Bool) : Prop where
  len : bo.length = na.length + nb.length + 1
  take : bo.take na.length = na
  last : bo[na.length + nb.length]? = some (binNd o ((na.length : Int) - 1) ((na.length : Int) + (nb.length : Int) - 1))
  mid : ∀ i x, nb[i]? = some x → bo[na.length + i]? = some (shiftN na.length x)
theorem pair_facts (a b : Tree) (o : Bool) : PairF (flat 0 a) (flat 0 b) (flat 0 (.bin o a b)) o := by
  have e1 := flat_len a 0
  have e2 := flat_len b 0
  have e3 := flat_len b (0 + a.size)
  have e4 : flat (0 + a.size) b = (flat 0 b).map (shiftN a.size) := flat_shift b 0 a.size
  refine ⟨?_, ?_, ?_, ?_⟩
  · rw [flat, List.length_append, List.length_append, e1, e2, e3]; rfl
  · rw [flat, List.append_assoc]; exact List.take_left
  · rw [flat, e1, e2, List.getElem?_append_right (by rw [List.length_append, e1, e3]; omega), List.length_append, e1, e3, Nat.sub_self, Nat.zero_add]
    simp
  · intro i x hx
    have hi : i < b.size := by rw [← e2]; exact (List.getElem?_eq_some_iff.1 hx).1
    rw [flat, List.getElem?_append_left (by rw [List.length_append, e1, e3]; omega), List.getElem?_append_right (by omega), Nat.add_sub_cancel_left, e4, List.getElem?_map, hx, e1]
    rfl
structure NegF (na no : List Nd) : Prop where
  len : no.length = na.length + 1
  take : no.take na.length = na
  last : no[na.length]? = some (negNd ((na.length : Int) - 1))
theorem neg_facts (a : Tree) : NegF (flat 0 a) (flat 0 (.neg a)) := by
  have e1 := flat_len a 0
  refine ⟨?_, ?_, ?_⟩
  · rw [flat, List.length_append]; rfl
  · rw [flat]; exact List.take_left
  · rw [flat, e1, List.getElem?_append_right (by omega), e1, Nat.sub_self, Nat.zero_add]
    rfl
theorem shift_kind (d : Nat) (x : Nd) : (shiftN d x).kind = x.kind := by
  unfold shiftN
  split
  · rfl
  · split <;> rfl
theorem shift_left {d : Nat} {x : Nd} (h : x.kind ≠ 0) : (shiftN d x).left = x.left + d := by
  unfold shiftN
  rw [if_neg h]
  split <;> rfl
theorem shift_right {d : Nat} {x : Nd} (h : x.kind = 1 ∨ x.kind = 2) : (shiftN d x).right = x.right + d := by
  unfold shiftN
  rw [if_neg (by rintro e; rw [e] at h; revert h; decide), if_neg (by rintro e; rw [e] at h; revert h; decide)]
theorem cat_pair_and (s t : Tx) : (⟨#[40]⟩ : ByteArray) ++ ⟨s.toArray⟩ ++ ⟨#[10, 41]⟩ ++ ⟨#[32, 97, 110, 100, 32]⟩ ++ ⟨#[40]⟩ ++ ⟨t.toArray⟩ ++ ⟨#[10, 41]⟩ = ⟨(pairX false s t).toArray⟩ := by
  rw [show (⟨#[40]⟩ : ByteArray) = ⟨([40] : Tx).toArray⟩ from rfl, show (⟨#[10, 41]⟩ : ByteArray) = ⟨([10, 41] : Tx).toArray⟩ from rfl, show (⟨#[32, 97, 110, 100, 32]⟩ : ByteArray) = ⟨([32, 97, 110, 100, 32] : Tx).toArray⟩ from rfl, app_str, app_str, app_str, app_str, app_str, app_str]
  simp [pairX, wordX]
theorem cat_pair_or (s t : Tx) : (⟨#[40]⟩ : ByteArray) ++ ⟨s.toArray⟩ ++ ⟨#[10, 41]⟩ ++ ⟨#[32, 111, 114, 32]⟩ ++ ⟨#[40]⟩ ++ ⟨t.toArray⟩ ++ ⟨#[10, 41]⟩ = ⟨(pairX true s t).toArray⟩ := by
  rw [show (⟨#[40]⟩ : ByteArray) = ⟨([40] : Tx).toArray⟩ from rfl, show (⟨#[10, 41]⟩ : ByteArray) = ⟨([10, 41] : Tx).toArray⟩ from rfl, show (⟨#[32, 111, 114, 32]⟩ : ByteArray) = ⟨([32, 111, 114, 32] : Tx).toArray⟩ from rfl, app_str, app_str, app_str, app_str, app_str, app_str]
  simp [pairX, wordX]
theorem cat_neg (s : Tx) : (⟨#[110, 111, 116, 32, 40]⟩ : ByteArray) ++ ⟨s.toArray⟩ ++ ⟨#[10, 41]⟩ = ⟨(negX s).toArray⟩ := by
  rw [show (⟨#[110, 111, 116, 32, 40]⟩ : ByteArray) = ⟨([110, 111, 116, 32, 40] : Tx).toArray⟩ from rfl, show (⟨#[10, 41]⟩ : ByteArray) = ⟨([10, 41] : Tx).toArray⟩ from rfl, app_str, app_str]
  simp [negX]
end Pairs
end Go.Proofs.YtjhodmpgggaknaaGreatDoor
