/- Plain mathematics of bytes that are put over others: what is put, and whether its number of ones is odd; no program is named. -/
import Derived.Test.YtfakplbgheljbaaPlain2
namespace Go.Proofs.Ytfakplbgheljbaa
/-- two bytes, exclusive-or. -/
def bx8 (b o : Int) : Int := ((byt b ^^^ byt o).toNat : Int)
theorem byt_bx8 (b o : Int) : byt (bx8 b o) = byt b ^^^ byt o := by
  unfold bx8
  show BitVec.ofInt 32 _ = _
  rw [BitVec.ofInt_natCast, BitVec.ofNat_toNat, BitVec.setWidth_eq]
theorem byt_toNat (z : Int) (h0 : 0 ≤ z) (h : z < 256) : (byt z).toNat = z.toNat := by
  unfold byt; rw [BitVec.toNat_ofInt]; omega
theorem bx8_in (b o : Int) (hb : 0 ≤ b) (hb' : b < 256) (ho : 0 ≤ o) (ho' : o < 256) : 0 ≤ bx8 b o ∧ bx8 b o < 256 := by
  unfold bx8
  rw [BitVec.toNat_xor, byt_toNat b hb hb', byt_toNat o ho ho']
  have := @Nat.xor_lt_two_pow b.toNat o.toNat 8 (by omega) (by omega)
  omega
/-- what is put over the first ones. -/
def xo : List Int → List Int → List Int
  | b :: bs, o :: os => bx8 b o :: xo bs os
  | bs, [] => bs
  | [], _ :: _ => []
theorem xo_nil (bs : List Int) : xo bs [] = bs := by cases bs <;> rfl
theorem xo_length (bs : List Int) : ∀ os, (xo bs os).length = bs.length := by
  induction bs with
  | nil => intro os; cases os <;> rfl
  | cons b bs ih =>
    intro os
    cases os with
    | nil => rfl
    | cons o os => show (xo bs os).length + 1 = _; rw [ih]; rfl
theorem xo_get (i : Nat) : ∀ bs os : List Int, (xo bs (os.take i)).getD i 0 = bs.getD i 0 := by
  induction i with
  | zero => intro bs os; simp [xo_nil]
  | succ i ih =>
    intro bs os
    cases os with
    | nil => simp [xo_nil]
    | cons o os =>
      cases bs with
      | nil => rfl
      | cons b bs => show (xo bs (os.take i)).getD i 0 = bs.getD i 0; exact ih bs os
theorem xo_set (i : Nat) : ∀ bs os : List Int, i < bs.length → i < os.length → (xo bs (os.take i)).set i (bx8 (bs.getD i 0) (os.getD i 0)) = xo bs (os.take (i + 1)) := by
  induction i with
  | zero =>
    intro bs os hb ho
    cases bs with
    | nil => simp at hb
    | cons b bs =>
      cases os with
      | nil => simp at ho
      | cons o os => simp [xo_nil, xo]
  | succ i ih =>
    intro bs os hb ho
    cases bs with
    | nil => simp at hb
    | cons b bs =>
      cases os with
      | nil => simp at ho
      | cons o os =>
        show bx8 b o :: (xo bs (os.take i)).set i (bx8 (bs.getD i 0) (os.getD i 0)) = bx8 b o :: xo bs (os.take (i + 1))
        rw [ih bs os (by simpa using hb) (by simpa using ho)]
theorem xo_in (bs : List Int) (hb : ∀ z ∈ bs, 0 ≤ z ∧ z < 256) : ∀ os : List Int, (∀ z ∈ os, 0 ≤ z ∧ z < 256) → ∀ z ∈ xo bs os, 0 ≤ z ∧ z < 256 := by
  induction bs with
  | nil => intro os ho z hz; cases os <;> simp [xo] at hz
  | cons b bs ih =>
    intro os ho z hz
    cases os with
    | nil => rw [xo_nil] at hz; exact hb z hz
    | cons o os =>
      rcases List.mem_cons.1 hz with h | h
      · subst h
        have h1 := hb b (by simp)
        have h2 := ho o (by simp)
        exact bx8_in b o h1.1 h1.2 h2.1 h2.2
      · exact ih (fun z hz => hb z (by simp [hz])) os (fun z hz => ho z (by simp [hz])) z h
/-- is the number of ones of these bytes odd? -/
def parB : List Int → Bool
  | [] => false
  | o :: os => par 8 (byt o) ^^ parB os
theorem parB_snoc (l : List Int) (o : Int) : parB (l ++ [o]) = (parB l ^^ par 8 (byt o)) := by
  induction l with
  | nil => simp [parB]
  | cons x l ih => show (par 8 (byt x) ^^ parB (l ++ [o])) = ((par 8 (byt x) ^^ parB l) ^^ par 8 (byt o)); rw [ih, Bool.xor_assoc]
theorem byt_bit (o : Int) (h0 : 0 ≤ o) (h : o < 256) (k : Nat) : (byt o).getLsbD k = decide (o.toNat / 2 ^ k % 2 = 1) := by
  rw [BitVec.getLsbD, byt_toNat o h0 h, Nat.testBit_eq_decide_div_mod_eq]
theorem par_byte (o : Int) (h0 : 0 ≤ o) (h : o < 256) : par 32 (byt o) = par 8 (byt o) := by
  have : ∀ k, par (8 + k) (byt o) = par 8 (byt o) := by
    intro k
    induction k with
    | zero => rfl
    | succ k ih =>
      show (par (8 + k) (byt o) ^^ (byt o).getLsbD (8 + k)) = _
      have hlt : o.toNat / 2 ^ (8 + k) = 0 := by
        apply Nat.div_eq_of_lt
        have : 2 ^ 8 ≤ 2 ^ (8 + k) := Nat.pow_le_pow_right (by omega) (by omega)
        omega
      rw [ih, byt_bit o h0 h, hlt]; simp
  exact this 24
theorem zipx_same (bs : List Int) : parl (zipx bs bs) = false := by
  induction bs with
  | nil => rfl
  | cons b bs ih =>
    show (par 32 (byt b ^^^ byt b) ^^ parl (zipx bs bs)) = false
    rw [ih, BitVec.xor_self]; decide +kernel
theorem parl_xo (bs : List Int) : ∀ os : List Int, os.length ≤ bs.length → (∀ z ∈ os, 0 ≤ z ∧ z < 256) → parl (zipx bs (xo bs os)) = parB os := by
  induction bs with
  | nil =>
    intro os h _
    cases os with
    | nil => rfl
    | cons _ _ => simp at h
  | cons b bs ih =>
    intro os h ho
    cases os with
    | nil => rw [xo_nil, zipx_same]; rfl
    | cons o os =>
      show (par 32 (byt b ^^^ byt (bx8 b o)) ^^ parl (zipx bs (xo bs os))) = (par 8 (byt o) ^^ parB os)
      have h1 := ho o (by simp)
      rw [ih os (by simpa using h) (fun z hz => ho z (by simp [hz])), byt_bx8, ← BitVec.xor_assoc, BitVec.xor_self, BitVec.zero_xor, par_byte o h1.1 h1.2]
theorem sum_over (bs os : List Int) (hl : os.length ≤ bs.length) (ho : ∀ z ∈ os, 0 ≤ z ∧ z < 256) (hp : parB os = true) : sum bs ≠ sum (xo bs os) :=
  sum_odd _ _ (xo_length bs os).symm (by rw [parl_xo bs os hl ho, hp])
end Go.Proofs.Ytfakplbgheljbaa
