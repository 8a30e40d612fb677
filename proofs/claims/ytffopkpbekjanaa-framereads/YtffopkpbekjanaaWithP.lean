/- Plain mathematics of four bytes of a number behind others: what they leave; no program is named. -/
import Derived.Test.YtffopkpbekjanaaPlain2
namespace Go.Proofs.Ytffopkpbekjanaa
theorem txn_shl (k : Nat) : ∀ y : R, k ≤ 32 → y.toNat < 2 ^ (32 - k) → txn k (y <<< k) = y := by
  induction k with
  | zero => intro y _ _; simp [txn]
  | succ k ih =>
    intro y hk hy
    show txn k (tx (y <<< (k + 1))) = y
    have e : tx (y <<< (k + 1)) = y <<< k := by
      rw [tx_even _ (by rw [BitVec.getLsbD_shiftLeft]; simp)]
      apply BitVec.eq_of_getLsbD_eq
      intro i hi
      rw [BitVec.getLsbD_ushiftRight, BitVec.getLsbD_shiftLeft, BitVec.getLsbD_shiftLeft]
      by_cases h1 : 1 + i < 32
      · have e1 : 1 + i - (k + 1) = i - k := by omega
        have e2 : decide (1 + i < k + 1) = decide (i < k) := by rw [Bool.eq_iff_iff]; simp; omega
        simp [h1, hi, e1, e2]
      · have hi31 : i = 31 := by omega
        subst hi31
        have hz : y.getLsbD (31 - k) = false := by
          rw [BitVec.getLsbD]
          exact Nat.testBit_lt_two_pow (by rw [show 32 - (k + 1) = 31 - k by omega] at hy; exact hy)
        simp [hz]
    rw [e]
    exact ih y (by omega) (Nat.lt_of_lt_of_le hy (Nat.pow_le_pow_right (by omega) (by omega)))
def four (n : Int) : List Int := [n % 256, n / 256 % 256, n / 65536 % 256, n / 16777216 % 256]
theorem four_in (n : Int) : ∀ z ∈ four n, 0 ≤ z ∧ z < 256 := by
  intro z hz
  simp [four] at hz
  rcases hz with rfl | rfl | rfl | rfl <;> omega
theorem byt_lt (z : Int) (h0 : 0 ≤ z) (h : z < 256) : (byt z).toNat < 256 := by
  unfold byt; rw [BitVec.toNat_ofInt]; omega
theorem byt_part (t : R) (s i : Nat) : (byt ((t.toNat : Int) / (2 ^ s : Nat) % 256)).getLsbD i = (decide (i < 8) && t.getLsbD (s + i)) := by
  have e : (byt ((t.toNat : Int) / (2 ^ s : Nat) % 256)).toNat = t.toNat / 2 ^ s % 2 ^ 8 := by
    unfold byt
    rw [BitVec.toNat_ofInt]
    have : ((t.toNat : Int) / (2 ^ s : Nat) % 256) = ((t.toNat / 2 ^ s % 2 ^ 8 : Nat) : Int) := by
      rw [← Int.natCast_ediv]; omega
    rw [this]
    omega
  rw [BitVec.getLsbD, e, Nat.testBit_mod_two_pow, Nat.testBit_div_two_pow, BitVec.getLsbD, Nat.add_comm]
theorem four_all (t : R) : byt ((t.toNat : Int) % 256) ^^^ (byt ((t.toNat : Int) / 256 % 256) <<< 8) ^^^ (byt ((t.toNat : Int) / 65536 % 256) <<< 16) ^^^ (byt ((t.toNat : Int) / 16777216 % 256) <<< 24) = t := by
  have p0 := byt_part t 0
  have p1 := byt_part t 8
  have p2 := byt_part t 16
  have p3 := byt_part t 24
  have q0 : (t.toNat : Int) % 256 = (t.toNat : Int) / (2 ^ 0 : Nat) % 256 := by simp
  have q1 : (t.toNat : Int) / 256 % 256 = (t.toNat : Int) / (2 ^ 8 : Nat) % 256 := rfl
  have q2 : (t.toNat : Int) / 65536 % 256 = (t.toNat : Int) / (2 ^ 16 : Nat) % 256 := rfl
  have q3 : (t.toNat : Int) / 16777216 % 256 = (t.toNat : Int) / (2 ^ 24 : Nat) % 256 := rfl
  rw [q0, q1, q2, q3]
  apply BitVec.eq_of_getLsbD_eq
  intro i hi
  rw [BitVec.getLsbD_xor, BitVec.getLsbD_xor, BitVec.getLsbD_xor, BitVec.getLsbD_shiftLeft, BitVec.getLsbD_shiftLeft, BitVec.getLsbD_shiftLeft, p0 i, p1 (i - 8), p2 (i - 16), p3 (i - 24), Nat.zero_add]
  by_cases h8 : i < 8
  · simp [h8, show i < 16 by omega, show i < 24 by omega]
  · by_cases h16 : i < 16
    · simp [h8, h16, hi, show i < 24 by omega, show i - 8 < 8 by omega, show 8 + (i - 8) = i by omega]
    · by_cases h24 : i < 24
      · simp [h8, h16, h24, hi, show ¬ i - 8 < 8 by omega, show i - 16 < 8 by omega, show 16 + (i - 16) = i by omega]
      · simp [h8, h16, h24, hi, show ¬ i - 8 < 8 by omega, show ¬ i - 16 < 8 by omega, show i - 24 < 8 by omega, show 24 + (i - 24) = i by omega]
theorem raw_four (l t : R) : raw l (four (t.toNat : Int)) = txn 32 (l ^^^ t) := by
  have e1 := txn_shl 8 (byt ((t.toNat : Int) / 256 % 256)) (by omega) (Nat.lt_of_lt_of_le (byt_lt _ (by omega) (by omega)) (by decide))
  have e2 := txn_shl 16 (byt ((t.toNat : Int) / 65536 % 256)) (by omega) (Nat.lt_of_lt_of_le (byt_lt _ (by omega) (by omega)) (by decide))
  have e3 := txn_shl 24 (byt ((t.toNat : Int) / 16777216 % 256)) (by omega) (Nat.lt_of_lt_of_le (byt_lt _ (by omega) (by omega)) (by decide))
  have ha := four_all t
  have hr : raw l (four (t.toNat : Int)) = txn 8 (txn 8 (txn 8 (txn 8 (l ^^^ byt ((t.toNat : Int) % 256)) ^^^ byt ((t.toNat : Int) / 256 % 256)) ^^^ byt ((t.toNat : Int) / 65536 % 256)) ^^^ byt ((t.toNat : Int) / 16777216 % 256)) := rfl
  rw [hr]
  generalize byt ((t.toNat : Int) % 256) = y0 at *
  generalize byt ((t.toNat : Int) / 256 % 256) = y1 at *
  generalize byt ((t.toNat : Int) / 65536 % 256) = y2 at *
  generalize byt ((t.toNat : Int) / 16777216 % 256) = y3 at *
  have f1 : txn 8 (l ^^^ y0) ^^^ y1 = txn 8 (l ^^^ y0 ^^^ y1 <<< 8) := by rw [txn_xor 8 (l ^^^ y0), e1]
  have f2 : txn 8 (txn 8 (l ^^^ y0 ^^^ y1 <<< 8)) ^^^ y2 = txn 16 (l ^^^ y0 ^^^ y1 <<< 8 ^^^ y2 <<< 16) := by rw [← txn_add, txn_xor 16 (l ^^^ y0 ^^^ y1 <<< 8), e2]
  have f3 : txn 8 (txn 16 (l ^^^ y0 ^^^ y1 <<< 8 ^^^ y2 <<< 16)) ^^^ y3 = txn 24 (l ^^^ y0 ^^^ y1 <<< 8 ^^^ y2 <<< 16 ^^^ y3 <<< 24) := by rw [← txn_add, txn_xor 24 (l ^^^ y0 ^^^ y1 <<< 8 ^^^ y2 <<< 16), e3]
  rw [f1, f2, f3, ← txn_add]
  rw [← ha]
  simp only [BitVec.xor_assoc]
theorem with_right (b : List Int) : sum (b ++ four ((sum b).toNat : Int)) = 0x48674bc7#32 := by
  show raw ones _ ^^^ ones = _
  rw [raw_append, raw_four, raw_of_sum, BitVec.xor_comm (sum b), BitVec.xor_assoc, BitVec.xor_self, BitVec.xor_zero]
  decide +kernel
theorem with_other (b : List Int) (o : R) : sum (b ++ four ((sum b ^^^ o).toNat : Int)) = 0x48674bc7#32 ^^^ txn 32 o := by
  show raw ones _ ^^^ ones = _
  rw [raw_append, raw_four, raw_of_sum, show sum b ^^^ ones ^^^ (sum b ^^^ o) = (sum b ^^^ sum b) ^^^ (ones ^^^ o) by ac_rfl, BitVec.xor_self, BitVec.zero_xor, txn_xor]
  rw [show (0x48674bc7#32 : R) = txn 32 ones ^^^ ones by decide +kernel]
  ac_rfl
theorem other_iff (o : R) : (0x48674bc7#32 ^^^ txn 32 o = 0x48674bc7#32) ↔ o = 0#32 := by
  constructor
  · intro h
    apply txn_inj_zero 32
    have : 0x48674bc7#32 ^^^ (0x48674bc7#32 ^^^ txn 32 o) = 0x48674bc7#32 ^^^ 0x48674bc7#32 := by rw [h]
    rw [← BitVec.xor_assoc, BitVec.xor_self, BitVec.zero_xor] at this
    exact this
  · intro h; subst h; rw [txn_zero, BitVec.xor_zero]
end Go.Proofs.Ytffopkpbekjanaa
