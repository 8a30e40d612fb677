/- Plain mathematics of the sums: numbers of 32 bits as polynomials, times x, products, powers of x; no program is named. -/
namespace Go.Proofs.Ytffopkpbekjanaa
abbrev R := BitVec 32
def dv : R := 0x82f63b78#32
def unit : R := 0x80000000#32
def tx (a : R) : R := (a >>> 1) ^^^ (if a.getLsbD 0 then dv else 0#32)
def txn : Nat → R → R
  | 0, a => a
  | n + 1, a => txn n (tx a)
def mulL : Nat → R → R → R → R
  | 0, _, _, p => p
  | n + 1, a, b, p => mulL n (tx a) (b <<< 1) (if b.getLsbD 31 then p ^^^ a else p)
def mul (a b : R) : R := mulL 32 a b 0#32

theorem tx_xor (a b : R) : tx (a ^^^ b) = tx a ^^^ tx b := by
  unfold tx
  rw [BitVec.ushiftRight_xor_distrib, BitVec.getLsbD_xor]
  cases a.getLsbD 0 <;> cases b.getLsbD 0 <;> simp
  · ac_rfl
  · ac_rfl
  · rw [show (a >>> 1 ^^^ dv ^^^ (b >>> 1 ^^^ dv)) = (a >>> 1 ^^^ b >>> 1) ^^^ (dv ^^^ dv) by ac_rfl]; simp
theorem tx_zero : tx 0#32 = 0#32 := by decide +kernel
theorem txn_succ (n : Nat) : ∀ a, txn (n + 1) a = tx (txn n a) := by
  induction n with
  | zero => intro a; rfl
  | succ n ih => intro a; show txn (n + 1) (tx a) = _; rw [ih]; rfl
theorem txn_xor (n : Nat) : ∀ a b, txn n (a ^^^ b) = txn n a ^^^ txn n b := by
  induction n with
  | zero => intro a b; rfl
  | succ n ih => intro a b; show txn n (tx (a ^^^ b)) = _; rw [tx_xor, ih]; rfl
theorem txn_zero (n : Nat) : txn n 0#32 = 0#32 := by
  induction n with
  | zero => rfl
  | succ n ih => show txn n (tx 0#32) = _; rw [tx_zero, ih]
theorem txn_add (m n : Nat) (a : R) : txn (m + n) a = txn n (txn m a) := by
  induction n with
  | zero => rfl
  | succ n ih => rw [← Nat.add_assoc, txn_succ, ih, txn_succ]
theorem txn_tx (n : Nat) (a : R) : txn n (tx a) = tx (txn n a) := txn_succ n a

/-- a map that keeps exclusive-or and goes well with times x goes well with products. -/
theorem mulL_map (f : R → R) (h1 : ∀ a b, f (a ^^^ b) = f a ^^^ f b) (h2 : ∀ a, f (tx a) = tx (f a)) (n : Nat) :
    ∀ a b p, f (mulL n a b p) = mulL n (f a) b (f p) := by
  induction n with
  | zero => intro a b p; rfl
  | succ n ih =>
    intro a b p
    show f (mulL n (tx a) (b <<< 1) (if b.getLsbD 31 then p ^^^ a else p)) = mulL n (tx (f a)) (b <<< 1) (if b.getLsbD 31 then f p ^^^ f a else f p)
    rw [ih, h2]
    cases b.getLsbD 31 <;> simp [h1]
theorem mulL_xor (n : Nat) : ∀ a c b p q, mulL n (a ^^^ c) b (p ^^^ q) = mulL n a b p ^^^ mulL n c b q := by
  induction n with
  | zero => intro a c b p q; rfl
  | succ n ih =>
    intro a c b p q
    show mulL n (tx (a ^^^ c)) (b <<< 1) (if b.getLsbD 31 then (p ^^^ q) ^^^ (a ^^^ c) else p ^^^ q) = mulL n (tx a) (b <<< 1) (if b.getLsbD 31 then p ^^^ a else p) ^^^ mulL n (tx c) (b <<< 1) (if b.getLsbD 31 then q ^^^ c else q)
    rw [tx_xor, ← ih]
    cases b.getLsbD 31
    · rfl
    · simp only [if_true]; rw [show (p ^^^ q) ^^^ (a ^^^ c) = (p ^^^ a) ^^^ (q ^^^ c) by ac_rfl]
theorem mul_xor (a c b : R) : mul (a ^^^ c) b = mul a b ^^^ mul c b := by
  have := mulL_xor 32 a c b 0#32 0#32
  rw [show (0#32 ^^^ 0#32 : R) = 0#32 by decide +kernel] at this
  exact this
theorem mul_tx (a b : R) : mul (tx a) b = tx (mul a b) := by
  have := mulL_map tx tx_xor (fun _ => rfl) 32 a b 0#32
  rw [tx_zero] at this
  exact this.symm

def pw (k : Nat) : R := BitVec.twoPow 32 k
theorem pw_bit (k i : Nat) (h : k < 32) : (pw k).getLsbD i = decide (k = i) := by
  unfold pw
  rw [BitVec.getLsbD_twoPow]
  by_cases e : k = i
  · subst e; simp [h]
  · simp [e]
theorem tx_even (a : R) (h : a.getLsbD 0 = false) : tx a = a >>> 1 := by
  unfold tx; rw [h]; simp
theorem tx_pw (k : Nat) (h : k + 1 < 32) : tx (pw (k + 1)) = pw k := by
  rw [tx_even _ (by rw [pw_bit _ _ h]; simp)]
  apply BitVec.eq_of_getLsbD_eq
  intro i hi
  rw [BitVec.getLsbD_ushiftRight, pw_bit _ _ h, pw_bit _ _ (by omega)]
  by_cases e : k = i
  · subst e; simp [Nat.add_comm]
  · have : ¬ (k + 1 = 1 + i) := by omega
    simp [e, this]
def low (k : Nat) (b : R) : R := (b.setWidth k).setWidth 32
theorem low_bit (k i : Nat) (b : R) (h : i < 32) : (low k b).getLsbD i = (decide (i < k) && b.getLsbD i) := by
  unfold low; simp [h]
theorem low_succ (k : Nat) (b p : R) (h : k < 32) : (if b.getLsbD k then p ^^^ pw k else p) ^^^ low k b = p ^^^ low (k + 1) b := by
  apply BitVec.eq_of_getLsbD_eq
  intro i hi
  rw [BitVec.getLsbD_xor, BitVec.getLsbD_xor, low_bit _ _ _ hi, low_bit _ _ _ hi]
  by_cases e : i = k
  · subst e
    cases hb : b.getLsbD i <;> simp [pw_bit _ _ h, BitVec.getLsbD_xor]
  · have e' : ¬ k = i := fun x => e x.symm
    cases hb : b.getLsbD k
    · simp; by_cases g : i < k
      · simp [g, show i < k + 1 by omega]
      · simp [g, show ¬ i < k + 1 by omega]
    · simp only [if_true, BitVec.getLsbD_xor, pw_bit _ _ h]
      by_cases g : i < k
      · simp [g, show i < k + 1 by omega, e']
      · simp [g, show ¬ i < k + 1 by omega, e']
theorem mulL_unit (b : R) (k : Nat) : ∀ p, k < 32 → mulL (k + 1) (pw k) (b <<< (31 - k)) p = p ^^^ low (k + 1) b := by
  induction k with
  | zero =>
    intro p _
    show (if (b <<< 31).getLsbD 31 then p ^^^ pw 0 else p) = _
    have := low_succ 0 b p (by omega)
    rw [← this]
    have h0 : low 0 b = 0#32 := by
      apply BitVec.eq_of_getLsbD_eq; intro i hi; rw [low_bit _ _ _ hi]; simp
    rw [h0]
    have : (b <<< 31).getLsbD 31 = b.getLsbD 0 := by rw [BitVec.getLsbD_shiftLeft]; simp
    rw [this, BitVec.xor_zero]
  | succ k ih =>
    intro p h
    show mulL (k + 1) (tx (pw (k + 1))) ((b <<< (31 - (k + 1))) <<< 1) (if (b <<< (31 - (k + 1))).getLsbD 31 then p ^^^ pw (k + 1) else p) = _
    rw [tx_pw _ h, ← BitVec.shiftLeft_add, show 31 - (k + 1) + 1 = 31 - k by omega, ih _ (by omega)]
    have : (b <<< (31 - (k + 1))).getLsbD 31 = b.getLsbD (k + 1) := by
      rw [BitVec.getLsbD_shiftLeft]
      have e : 31 - (31 - (k + 1)) = k + 1 := by omega
      rw [e]; simp; omega
    rw [this, low_succ _ _ _ h]
theorem unit_mul (b : R) : mul unit b = b := by
  have h := mulL_unit b 31 0#32 (by omega)
  have e : pw 31 = unit := by decide +kernel
  rw [e] at h
  have e2 : b <<< (31 - 31) = b := by simp
  rw [e2] at h
  unfold mul
  rw [h]
  apply BitVec.eq_of_getLsbD_eq
  intro i hi
  rw [BitVec.getLsbD_xor, low_bit _ _ _ hi]
  simp [show i < 31 + 1 by omega]
theorem map_mul (f : R → R) (h1 : ∀ a b, f (a ^^^ b) = f a ^^^ f b) (h2 : ∀ a, f (tx a) = tx (f a)) (a : R) : f a = mul (f unit) a := by
  have h0 : f 0#32 = 0#32 := by
    have := h1 0#32 0#32
    rw [show (0#32 ^^^ 0#32 : R) = 0#32 by decide +kernel, BitVec.xor_self] at this
    exact this
  have := mulL_map f h1 h2 32 unit a 0#32
  rw [h0, show mulL 32 unit a 0#32 = a from unit_mul a] at this
  exact this
theorem mul_comm (a b : R) : mul a b = mul b a := by
  have := map_mul (fun a => mul a b) (fun a c => mul_xor a c b) (fun a => mul_tx a b) a
  simp only [unit_mul] at this
  exact this
def xp (k : Nat) : R := txn k unit
theorem mul_xp (a : R) (k : Nat) : mul a (xp k) = txn k a := by
  rw [mul_comm]
  exact (map_mul (txn k) (txn_xor k) (txn_tx k) a).symm
theorem xp_mul (i j : Nat) : mul (xp i) (xp j) = xp (i + j) := by
  rw [mul_xp]; unfold xp; rw [txn_add]
theorem xp_octet : xp 8 = 0x800000#32 := by decide +kernel
theorem tx_inj_zero (a : R) (h : tx a = 0#32) : a = 0#32 := by
  unfold tx at h
  cases h0 : a.getLsbD 0
  · rw [h0] at h
    simp at h
    apply BitVec.eq_of_getLsbD_eq
    intro i hi
    cases i with
    | zero => rw [h0]; simp
    | succ i =>
      have := congrArg (fun x : R => x.getLsbD i) h
      simp at this
      rw [Nat.add_comm] at this
      simpa using this
  · rw [h0] at h
    have := congrArg (fun x : R => x.getLsbD 31) h
    simp [dv] at this
theorem txn_inj_zero (n : Nat) : ∀ a, txn n a = 0#32 → a = 0#32 := by
  induction n with
  | zero => intro a h; exact h
  | succ n ih => intro a h; exact tx_inj_zero a (ih _ h)
theorem xor_eq_zero {a b : R} (h : a ^^^ b = 0#32) : a = b := by
  have : (a ^^^ b) ^^^ b = 0#32 ^^^ b := by rw [h]
  rw [BitVec.xor_assoc, BitVec.xor_self, BitVec.xor_zero, BitVec.zero_xor] at this
  exact this
theorem txn_inj (n : Nat) (a b : R) (h : txn n a = txn n b) : a = b := by
  apply xor_eq_zero
  apply txn_inj_zero n
  rw [txn_xor, h, BitVec.xor_self]

/-- squared so many times. -/
def sqn : Nat → R → R
  | 0, a => a
  | n + 1, a => sqn n (mul a a)
theorem sqn_xp (n : Nat) : ∀ k, sqn n (xp k) = xp (k * 2 ^ n) := by
  induction n with
  | zero => intro k; simp [sqn]
  | succ n ih => intro k; show sqn n (mul (xp k) (xp k)) = _; rw [xp_mul, ih, Nat.pow_succ]; congr 1; rw [← Nat.two_mul]; ac_rfl
theorem sq31 : sqn 31 (xp 1) = xp 1 := by decide +kernel
theorem xp_round : xp 2147483647 = unit := by
  have h := sqn_xp 31 1
  rw [sq31] at h
  have h2 : xp (2147483647 + 1) = tx (xp 2147483647) := by unfold xp; rw [txn_succ]
  have h3 : xp (1 * 2 ^ 31) = tx (xp 2147483647) := by rw [← h2]
  rw [h3] at h
  have h4 : xp 1 = tx unit := rfl
  rw [h4] at h
  exact (txn_inj 1 unit (xp 2147483647) h).symm
theorem txn_round (a : R) : txn 2147483647 a = a := by
  rw [← mul_xp, xp_round, mul_comm, unit_mul]
theorem txn_rounds (j : Nat) (a : R) : txn (2147483647 * j) a = a := by
  induction j with
  | zero => rfl
  | succ j ih => rw [Nat.mul_succ, txn_add, ih, txn_round]
end Go.Proofs.Ytffopkpbekjanaa
