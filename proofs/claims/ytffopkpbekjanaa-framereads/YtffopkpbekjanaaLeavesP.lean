/- Plain mathematics of a sum that is told bit by bit, and of how much pieces are worth; no program is named. -/
import Derived.Test.YtffopkpbekjanaaPlain2
namespace Go.Proofs.Ytffopkpbekjanaa
/-- what pieces are worth. -/
def wt (l : List (List Int)) : Nat := l.length + l.flatten.length
theorem wt_take (l : List (List Int)) (k : Nat) (h : k < l.length) : wt (l.take (k + 1)) = wt (l.take k) + 1 + (l.getD k []).length := by
  unfold wt
  rw [flat_take l k h, List.length_append, List.length_take, List.length_take]
  omega
theorem wt_le (l : List (List Int)) (k : Nat) : wt (l.take k) ≤ wt l := by
  unfold wt
  have h1 : (l.take k).length ≤ l.length := List.length_take_le' _ _
  have h2 : (l.take k).flatten.length ≤ l.flatten.length := by
    have : l.flatten = (l.take k).flatten ++ (l.drop k).flatten := by rw [← List.flatten_append, List.take_append_drop]
    rw [this]; simp
  omega
def bit01 (b : Bool) : R := if b then 1#32 else 0#32
theorem txn_pw (j : Nat) : ∀ i, i + j < 32 → txn j (pw (i + j)) = pw i := by
  induction j with
  | zero => intro i _; rfl
  | succ j ih =>
    intro i h
    show txn j (tx (pw (i + (j + 1)))) = _
    rw [← Nat.add_assoc, tx_pw _ (by omega), ih i (by omega)]
theorem bit01_pw (j : Nat) (b : Bool) (h : j < 32) : bit01 b = txn j (if b then pw j else 0#32) := by
  cases b
  · simp [bit01, txn_zero]
  · have := txn_pw j 0 (by omega)
    rw [Nat.zero_add] at this
    simp only [bit01, if_true]
    rw [this]; decide +kernel
theorem bit_next (j : Nat) (a y : R) (h : j < 32) : tx (txn j (a ^^^ low j y) ^^^ bit01 (y.getLsbD j)) = txn (j + 1) (a ^^^ low (j + 1) y) := by
  rw [bit01_pw j _ h, ← txn_xor, txn_succ]
  congr 2
  rw [← low_succ j y a h]
  cases y.getLsbD j
  · simp
  · simp only [if_true]; ac_rfl
theorem low_zero (y : R) : low 0 y = 0#32 := by
  apply BitVec.eq_of_getLsbD_eq; intro i hi; rw [low_bit _ _ _ hi]; simp
theorem low_byte (z : Int) (h0 : 0 ≤ z) (h : z < 256) : low 8 (byt z) = byt z := by
  have e : (byt z).toNat < 2 ^ 8 := by unfold byt; rw [BitVec.toNat_ofInt]; omega
  apply BitVec.eq_of_getLsbD_eq
  intro i hi
  rw [low_bit _ _ _ hi]
  by_cases g : i < 8
  · simp [g]
  · have : (byt z).getLsbD i = false := by
      rw [BitVec.getLsbD]
      exact Nat.testBit_lt_two_pow (Nat.lt_of_lt_of_le e (Nat.pow_le_pow_right (by omega) (by omega)))
    simp [this]
/-- what is left when so many bits have been gone through. -/
def bst (zs : List Int) (i : Nat) : R := txn (i % 8) (raw ones (zs.take (i / 8)) ^^^ low (i % 8) (byt (zs.getD (i / 8) 0)))
theorem bst_zero (zs : List Int) : bst zs 0 = ones := by
  unfold bst; simp [low_zero, raw_nil, txn]
theorem bst_end (zs : List Int) : bst zs (8 * zs.length) = raw ones zs := by
  unfold bst
  rw [Nat.mul_mod_right, Nat.mul_div_cancel_left _ (by omega), low_zero, List.take_length]
  simp [txn]
theorem bst_succ (zs : List Int) (hz : ∀ z ∈ zs, 0 ≤ z ∧ z < 256) (i : Nat) (h : i < 8 * zs.length) : bst zs (i + 1) = tx (bst zs i ^^^ bit01 ((byt (zs.getD (i / 8) 0)).getLsbD (i % 8))) := by
  have hq : i / 8 < zs.length := by omega
  unfold bst
  rw [bit_next _ _ _ (by omega)]
  by_cases g : i % 8 = 7
  · have e1 : (i + 1) % 8 = 0 := by omega
    have e2 : (i + 1) / 8 = i / 8 + 1 := by omega
    have hm : zs.getD (i / 8) 0 ∈ zs := by simp [List.getD, List.getElem?_eq_getElem hq]
    rw [e1, e2, g, low_zero, BitVec.xor_zero, low_byte _ (hz _ hm).1 (hz _ hm).2, take_snoc zs _ hq, raw_snoc]
    rfl
  · have e1 : (i + 1) % 8 = i % 8 + 1 := by omega
    have e2 : (i + 1) / 8 = i / 8 := by omega
    rw [e1, e2]
theorem xor_bit (x : R) (b : Bool) : (x.toNat : Int) - (x.toNat : Int) % 2 + ((x.toNat : Int) % 2 + (if b then 1 else 0)) % 2 = ((x ^^^ bit01 b).toNat : Int) := by
  cases b
  · simp [bit01]
  · have h1 : (x ^^^ 1#32).toNat % 2 = 1 - x.toNat % 2 := by
      rw [BitVec.toNat_xor]
      show (x.toNat ^^^ 1) % 2 = _
      have h := Nat.testBit_xor x.toNat 1 0
      rw [Nat.testBit_zero, Nat.testBit_zero, Nat.testBit_zero] at h
      have hm : (x.toNat ^^^ 1) % 2 < 2 := Nat.mod_lt _ (by omega)
      generalize (x.toNat ^^^ 1) % 2 = m at h hm ⊢
      obtain rfl | rfl : m = 0 ∨ m = 1 := by omega
      · rcases Nat.mod_two_eq_zero_or_one x.toNat with h0 | h0
        · rw [h0] at h; exact absurd h (by decide)
        · rw [h0]
      · rcases Nat.mod_two_eq_zero_or_one x.toNat with h0 | h0
        · rw [h0]
        · rw [h0] at h; exact absurd h (by decide)
    have h2 : (x ^^^ 1#32).toNat / 2 = x.toNat / 2 := by
      rw [BitVec.toNat_xor]
      show (x.toNat ^^^ 1) / 2 = _
      rw [Nat.xor_div_two]; simp
    simp only [bit01, if_true]
    omega
end Go.Proofs.Ytffopkpbekjanaa
