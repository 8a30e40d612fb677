/- Plain mathematics of the document's reading: which number of bytes the length may have; no program is named. -/
import Derived.Test.YtffopkpbekjanaaFrP
namespace Go.Proofs.Ytffopkpbekjanaa
def acc3 (zs : List Int) (k : Nat) : Int := if k = 0 then 0 else if k = 1 then zs.getD 0 0 % 128 else if k = 2 then zs.getD 0 0 % 128 + 128 * (zs.getD 1 0 % 128) else zs.getD 0 0 % 128 + 128 * (zs.getD 1 0 % 128) + 16384 * (zs.getD 2 0 % 128)
/-- the last d of the first k bytes, as the document reckons them. -/
def hs (zs : List Int) (k : Nat) : Nat → Int
  | 0 => 0
  | d + 1 => 128 * hs zs k d + zs.getD (k - 1 - d) 0 % 128
theorem hs_succ (zs : List Int) (k d : Nat) : hs zs k (d + 1) = 128 * hs zs k d + zs.getD (k - 1 - d) 0 % 128 := rfl
theorem hs_lt (zs : List Int) (k : Nat) : ∀ d, 0 ≤ hs zs k d ∧ hs zs k d < 128 ^ d
  | 0 => by simp [hs]
  | d + 1 => by
    have := hs_lt zs k d
    rw [hs_succ, Int.pow_succ]
    omega
theorem hs_small (zs : List Int) (k d : Nat) (hd : d ≤ 3) : 0 ≤ hs zs k d ∧ hs zs k d < 2097152 := by
  have := hs_lt zs k d
  obtain rfl | rfl | rfl | rfl : d = 0 ∨ d = 1 ∨ d = 2 ∨ d = 3 := by omega
  all_goals omega
theorem hs_acc (zs : List Int) (k : Nat) (h : k ≤ 3) : hs zs k k = acc3 zs k := by
  obtain rfl | rfl | rfl | rfl : k = 0 ∨ k = 1 ∨ k = 2 ∨ k = 3 := by omega
  all_goals simp [hs, acc3]
  all_goals omega
def numOf (zs : List Int) (k : Nat) : Nat := (acc3 zs k).toNat
def hit (zs : List Int) (k : Nat) : Prop := numOf zs k ≤ 65536 ∧ k + numOf zs k + 4 ≤ zs.length ∧ fr ((zs.drop k).take (numOf zs k)) = zs.take (k + numOf zs k + 4)
theorem hit_next {zs : List Int} {k : Nat} (h : hit zs k) : nextP zs = some ((zs.drop k).take (numOf zs k), k + numOf zs k + 4) := by
  obtain ⟨h1, h2, h3⟩ := h
  have hl : ((zs.drop k).take (numOf zs k)).length = numOf zs k := by simp; omega
  have := next_fr (p := (zs.drop k).take (numOf zs k)) (by omega) (zs.drop (k + numOf zs k + 4))
  rw [h3, List.take_append_drop] at this
  rw [this]
  congr 2
  simp; omega
theorem acc_vi {n : Nat} (h : n < 2097152) (r : List Int) : acc3 (vi n ++ r) (vi n).length = n := by
  by_cases h1 : n < 128
  · rw [vi_lt h1]; simp [acc3]; omega
  · by_cases h2 : n < 16384
    · rw [vi_two h1 h2]; simp [acc3]; omega
    · rw [vi_three h2 h]; simp [acc3]; omega
theorem next_hit {zs : List Int} (hb : Byt zs) {p : List Int} {u : Nat} (h : nextP zs = some (p, u)) : ∃ k, 1 ≤ k ∧ k ≤ 3 ∧ k ≤ zs.length ∧ hit zs k := by
  obtain ⟨h1, h2, h3⟩ := next_some hb h
  have hw := vi_len (show p.length < 2097152 by omega)
  have hw3 : 1 ≤ wide p.length ∧ wide p.length ≤ 3 := by unfold wide; split <;> (try split) <;> omega
  have e : zs = vi p.length ++ (p ++ (four ((sum (vi p.length ++ p)).toNat : Int) ++ zs.drop u)) := by
    conv => lhs; rw [h3]
    simp [fr]
  have hlen := congrArg List.length e
  simp [four_len] at hlen
  have hn : numOf zs (vi p.length).length = p.length := by
    unfold numOf
    rw [e, acc_vi (by omega)]
    simp
  have hp : (zs.drop (vi p.length).length).take p.length = p := by
    conv => lhs; rw [e]
    rw [List.drop_left' rfl, List.take_left' rfl]
  have hu := fr_len p
  refine ⟨(vi p.length).length, by omega, by omega, by omega, ?_⟩
  unfold hit
  rw [hn, hp]
  refine ⟨h1, by omega, ?_⟩
  conv => rhs; rw [h3]
  rw [List.take_left' (by omega)]
theorem none_of {zs : List Int} (hb : Byt zs) (h : ∀ j, 1 ≤ j → j ≤ 3 → j ≤ zs.length → ¬ hit zs j) : nextP zs = none := by
  cases hn : nextP zs with
  | none => rfl
  | some x =>
    obtain ⟨p, u⟩ := x
    obtain ⟨k, h1, h2, h3, h4⟩ := next_hit hb hn
    exact absurd h4 (h k h1 h2 h3)
end Go.Proofs.Ytffopkpbekjanaa
