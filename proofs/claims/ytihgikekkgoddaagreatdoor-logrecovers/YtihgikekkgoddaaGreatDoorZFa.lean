/- Joined: FPlain FPlain2 FWithP FFrP FToP. -/
/- Plain mathematics of the sums: numbers of 32 bits as polynomials, times x, products, powers of x; no program is named. -/
namespace Go.Proofs.YtihgikekkgoddaaGreatDoor.Frm
abbrev R := BitVec 32
def dv : R := 0x82f63b78#32
def unit : R := 0x80000000#32
def tx (a : R) : R := (a >>> 1) ^^^ (if a.getLsbD 0 then dv else 0#32)
def txn : Nat → R → R
  | 0, a => a
  | n + 1, a => txn n (tx a)
def mulL : Nat → R → R → R → R
  | 0, _, _, p => p
  | n + 1, a, b, p => mulL n (tx a) (b <<< 1) (if b.getLsbD 31 then p ^^^ a else p)
def mul (a b : R) : R := mulL 32 a b 0#32

theorem tx_xor (a b : R) : tx (a ^^^ b) = tx a ^^^ tx b := by
  unfold tx
  rw [BitVec.ushiftRight_xor_distrib, BitVec.getLsbD_xor]
  cases a.getLsbD 0 <;> cases b.getLsbD 0 <;> simp
  · ac_rfl
  · ac_rfl
  · rw [show (a >>> 1 ^^^ dv ^^^ (b >>> 1 ^^^ dv)) = (a >>> 1 ^^^ b >>> 1) ^^^ (dv ^^^ dv) by ac_rfl]; simp
theorem tx_zero : tx 0#32 = 0#32 := by decide +kernel
theorem txn_succ (n : Nat) : ∀ a, txn (n + 1) a = tx (txn n a) := by
  induction n with
  | zero => intro a; rfl
  | succ n ih => intro a; show txn (n + 1) (tx a) = _; rw [ih]; rfl
theorem txn_xor (n : Nat) : ∀ a b, txn n (a ^^^ b) = txn n a ^^^ txn n b := by
  induction n with
  | zero => intro a b; rfl
  | succ n ih => intro a b; show txn n (tx (a ^^^ b)) = _; rw [tx_xor, ih]; rfl
theorem txn_zero (n : Nat) : txn n 0#32 = 0#32 := by
  induction n with
  | zero => rfl
  | succ n ih => show txn n (tx 0#32) = _; rw [tx_zero, ih]
theorem txn_add (m n : Nat) (a : R) : txn (m + n) a = txn n (txn m a) := by
  induction n with
  | zero => rfl
  | succ n ih => rw [← Nat.add_assoc, txn_succ, ih, txn_succ]
theorem txn_tx (n : Nat) (a : R) : txn n (tx a) = tx (txn n a) := txn_succ n a

/-- a map that keeps exclusive-or and goes well with times x goes well with products. -/
theorem mulL_map (f : R → R) (h1 : ∀ a b, f (a ^^^ b) = f a ^^^ f b) (h2 : ∀ a, f (tx a) = tx (f a)) (n : Nat) :
    ∀ a b p, f (mulL n a b p) = mulL n (f a) b (f p) := by
  induction n with
  | zero => intro a b p; rfl
  | succ n ih =>
    intro a b p
    show f (mulL n (tx a) (b <<< 1) (if b.getLsbD 31 then p ^^^ a else p)) = mulL n (tx (f a)) (b <<< 1) (if b.getLsbD 31 then f p ^^^ f a else f p)
    rw [ih, h2]
    cases b.getLsbD 31 <;> simp [h1]
theorem mulL_xor (n : Nat) : ∀ a c b p q, mulL n (a ^^^ c) b (p ^^^ q) = mulL n a b p ^^^ mulL n c b q := by
  induction n with
  | zero => intro a c b p q; rfl
  | succ n ih =>
    intro a c b p q
    show mulL n (tx (a ^^^ c)) (b <<< 1) (if b.getLsbD 31 then (p ^^^ q) ^^^ (a ^^^ c) else p ^^^ q) = mulL n (tx a) (b <<< 1) (if b.getLsbD 31 then p ^^^ a else p) ^^^ mulL n (tx c) (b <<< 1) (if b.getLsbD 31 then q ^^^ c else q)
    rw [tx_xor, ← ih]
    cases b.getLsbD 31
    · rfl
    · simp only [if_true]; rw [show (p ^^^ q) ^^^ (a ^^^ c) = (p ^^^ a) ^^^ (q ^^^ c) by ac_rfl]
theorem mul_xor (a c b : R) : mul (a ^^^ c) b = mul a b ^^^ mul c b := by
  have := mulL_xor 32 a c b 0#32 0#32
  rw [show (0#32 ^^^ 0#32 : R) = 0#32 by decide +kernel] at this
  exact this
theorem mul_tx (a b : R) : mul (tx a) b = tx (mul a b) := by
  have := mulL_map tx tx_xor (fun _ => rfl) 32 a b 0#32
  rw [tx_zero] at this
  exact this.symm

def pw (k : Nat) : R := BitVec.twoPow 32 k
theorem pw_bit (k i : Nat) (h : k < 32) : (pw k).getLsbD i = decide (k = i) := by
  unfold pw
  rw [BitVec.getLsbD_twoPow]
  by_cases e : k = i
  · subst e; simp [h]
  · simp [e]
theorem tx_even (a : R) (h : a.getLsbD 0 = false) : tx a = a >>> 1 := by
  unfold tx; rw [h]; simp
theorem tx_pw (k : Nat) (h : k + 1 < 32) : tx (pw (k + 1)) = pw k := by
  rw [tx_even _ (by rw [pw_bit _ _ h]; simp)]
  apply BitVec.eq_of_getLsbD_eq
  intro i hi
  rw [BitVec.getLsbD_ushiftRight, pw_bit _ _ h, pw_bit _ _ (by omega)]
  by_cases e : k = i
  · subst e; simp [Nat.add_comm]
  · have : ¬ (k + 1 = 1 + i) := by omega
    simp [e, this]
def low (k : Nat) (b : R) : R := (b.setWidth k).setWidth 32
theorem low_bit (k i : Nat) (b : R) (h : i < 32) : (low k b).getLsbD i = (decide (i < k) && b.getLsbD i) := by
  unfold low; simp [h]
theorem low_succ (k : Nat) (b p : R) (h : k < 32) : (if b.getLsbD k then p ^^^ pw k else p) ^^^ low k b = p ^^^ low (k + 1) b := by
  apply BitVec.eq_of_getLsbD_eq
  intro i hi
  rw [BitVec.getLsbD_xor, BitVec.getLsbD_xor, low_bit _ _ _ hi, low_bit _ _ _ hi]
  by_cases e : i = k
  · subst e
    cases hb : b.getLsbD i <;> simp [pw_bit _ _ h, BitVec.getLsbD_xor]
  · have e' : ¬ k = i := fun x => e x.symm
    cases hb : b.getLsbD k
    · simp; by_cases g : i < k
      · simp [g, show i < k + 1 by omega]
      · simp [g, show ¬ i < k + 1 by omega]
    · simp only [if_true, BitVec.getLsbD_xor, pw_bit _ _ h]
      by_cases g : i < k
      · simp [g, show i < k + 1 by omega, e']
      · simp [g, show ¬ i < k + 1 by omega, e']
theorem mulL_unit (b : R) (k : Nat) : ∀ p, k < 32 → mulL (k + 1) (pw k) (b <<< (31 - k)) p = p ^^^ low (k + 1) b := by
  induction k with
  | zero =>
    intro p _
    show (if (b <<< 31).getLsbD 31 then p ^^^ pw 0 else p) = _
    have := low_succ 0 b p (by omega)
    rw [← this]
    have h0 : low 0 b = 0#32 := by
      apply BitVec.eq_of_getLsbD_eq; intro i hi; rw [low_bit _ _ _ hi]; simp
    rw [h0]
    have : (b <<< 31).getLsbD 31 = b.getLsbD 0 := by rw [BitVec.getLsbD_shiftLeft]; simp
    rw [this, BitVec.xor_zero]
  | succ k ih =>
    intro p h
    show mulL (k + 1) (tx (pw (k + 1))) ((b <<< (31 - (k + 1))) <<< 1) (if (b <<< (31 - (k + 1))).getLsbD 31 then p ^^^ pw (k + 1) else p) = _
    rw [tx_pw _ h, ← BitVec.shiftLeft_add, show 31 - (k + 1) + 1 = 31 - k by omega, ih _ (by omega)]
    have : (b <<< (31 - (k + 1))).getLsbD 31 = b.getLsbD (k + 1) := by
      rw [BitVec.getLsbD_shiftLeft]
      have e : 31 - (31 - (k + 1)) = k + 1 := by omega
      rw [e]; simp; omega
    rw [this, low_succ _ _ _ h]
theorem unit_mul (b : R) : mul unit b = b := by
  have h := mulL_unit b 31 0#32 (by omega)
  have e : pw 31 = unit := by decide +kernel
  rw [e] at h
  have e2 : b <<< (31 - 31) = b := by simp
  rw [e2] at h
  unfold mul
  rw [h]
  apply BitVec.eq_of_getLsbD_eq
  intro i hi
  rw [BitVec.getLsbD_xor, low_bit _ _ _ hi]
  simp [show i < 31 + 1 by omega]
theorem map_mul (f : R → R) (h1 : ∀ a b, f (a ^^^ b) = f a ^^^ f b) (h2 : ∀ a, f (tx a) = tx (f a)) (a : R) : f a = mul (f unit) a := by
  have h0 : f 0#32 = 0#32 := by
    have := h1 0#32 0#32
    rw [show (0#32 ^^^ 0#32 : R) = 0#32 by decide +kernel, BitVec.xor_self] at this
    exact this
  have := mulL_map f h1 h2 32 unit a 0#32
  rw [h0, show mulL 32 unit a 0#32 = a from unit_mul a] at this
  exact this
theorem mul_comm (a b : R) : mul a b = mul b a := by
  have := map_mul (fun a => mul a b) (fun a c => mul_xor a c b) (fun a => mul_tx a b) a
  simp only [unit_mul] at this
  exact this
def xp (k : Nat) : R := txn k unit
theorem mul_xp (a : R) (k : Nat) : mul a (xp k) = txn k a := by
  rw [mul_comm]
  exact (map_mul (txn k) (txn_xor k) (txn_tx k) a).symm
theorem xp_mul (i j : Nat) : mul (xp i) (xp j) = xp (i + j) := by
  rw [mul_xp]; unfold xp; rw [txn_add]
theorem xp_octet : xp 8 = 0x800000#32 := by decide +kernel
theorem tx_inj_zero (a : R) (h : tx a = 0#32) : a = 0#32 := by
  unfold tx at h
  cases h0 : a.getLsbD 0
  · rw [h0] at h
    simp at h
    apply BitVec.eq_of_getLsbD_eq
    intro i hi
    cases i with
    | zero => rw [h0]; simp
    | succ i =>
      have := congrArg (fun x : R => x.getLsbD i) h
      simp at this
      rw [Nat.add_comm] at this
      simpa using this
  · rw [h0] at h
    have := congrArg (fun x : R => x.getLsbD 31) h
    simp [dv] at this
theorem txn_inj_zero (n : Nat) : ∀ a, txn n a = 0#32 → a = 0#32 := by
  induction n with
  | zero => intro a h; exact h
  | succ n ih => intro a h; exact tx_inj_zero a (ih _ h)
theorem xor_eq_zero {a b : R} (h : a ^^^ b = 0#32) : a = b := by
  have : (a ^^^ b) ^^^ b = 0#32 ^^^ b := by rw [h]
  rw [BitVec.xor_assoc, BitVec.xor_self, BitVec.xor_zero, BitVec.zero_xor] at this
  exact this
theorem txn_inj (n : Nat) (a b : R) (h : txn n a = txn n b) : a = b := by
  apply xor_eq_zero
  apply txn_inj_zero n
  rw [txn_xor, h, BitVec.xor_self]

/-- squared so many times. -/
def sqn : Nat → R → R
  | 0, a => a
  | n + 1, a => sqn n (mul a a)
theorem sqn_xp (n : Nat) : ∀ k, sqn n (xp k) = xp (k * 2 ^ n) := by
  induction n with
  | zero => intro k; simp [sqn]
  | succ n ih => intro k; show sqn n (mul (xp k) (xp k)) = _; rw [xp_mul, ih, Nat.pow_succ]; congr 1; rw [← Nat.two_mul]; ac_rfl
theorem sq31 : sqn 31 (xp 1) = xp 1 := by decide +kernel
theorem xp_round : xp 2147483647 = unit := by
  have h := sqn_xp 31 1
  rw [sq31] at h
  have h2 : xp (2147483647 + 1) = tx (xp 2147483647) := by unfold xp; rw [txn_succ]
  have h3 : xp (1 * 2 ^ 31) = tx (xp 2147483647) := by rw [← h2]
  rw [h3] at h
  have h4 : xp 1 = tx unit := rfl
  rw [h4] at h
  exact (txn_inj 1 unit (xp 2147483647) h).symm
theorem txn_round (a : R) : txn 2147483647 a = a := by
  rw [← mul_xp, xp_round, mul_comm, unit_mul]
theorem txn_rounds (j : Nat) (a : R) : txn (2147483647 * j) a = a := by
  induction j with
  | zero => rfl
  | succ j ih => rw [Nat.mul_succ, txn_add, ih, txn_round]
end Go.Proofs.YtihgikekkgoddaaGreatDoor.Frm
/- Plain mathematics of sums of bytes: what a row of bytes leaves; two rows behind one another; an odd number of bits; four bytes of a number; no program is named. -/
namespace Go.Proofs.YtihgikekkgoddaaGreatDoor.Frm
def ones : R := 0xffffffff#32
def byt (z : Int) : R := BitVec.ofInt 32 z
def step (l : R) (z : Int) : R := txn 8 (l ^^^ byt z)
def raw (l : R) (zs : List Int) : R := zs.foldl step l
def sum (zs : List Int) : R := raw ones zs ^^^ ones
theorem raw_nil (l : R) : raw l [] = l := rfl
theorem raw_append (l : R) (a b : List Int) : raw l (a ++ b) = raw (raw l a) b := by unfold raw; rw [List.foldl_append]
theorem raw_snoc (l : R) (a : List Int) (z : Int) : raw l (a ++ [z]) = step (raw l a) z := by rw [raw_append]; rfl
theorem raw_xor (zs : List Int) : ∀ a b, raw (a ^^^ b) zs = raw a zs ^^^ txn (8 * zs.length) b := by
  induction zs with
  | nil => intro a b; rfl
  | cons z zs ih =>
    intro a b
    show raw (step (a ^^^ b) z) zs = raw (step a z) zs ^^^ _
    have : step (a ^^^ b) z = step a z ^^^ txn 8 b := by
      unfold step
      rw [show (a ^^^ b) ^^^ byt z = (a ^^^ byt z) ^^^ b by ac_rfl, txn_xor]
    rw [this, ih, ← txn_add]
    congr 2
    simp; omega
theorem raw_of_sum (zs : List Int) : raw ones zs = sum zs ^^^ ones := by
  unfold sum; rw [BitVec.xor_assoc, BitVec.xor_self, BitVec.xor_zero]
theorem sum_append (a b : List Int) : sum (a ++ b) = txn (8 * b.length) (sum a) ^^^ sum b := by
  show raw ones (a ++ b) ^^^ ones = _
  rw [raw_append, raw_of_sum a, BitVec.xor_comm (sum a) ones, raw_xor]
  show _ = _ ^^^ (raw ones b ^^^ ones)
  ac_rfl
theorem sum_nil : sum [] = 0#32 := by decide +kernel

theorem flat_take (l : List (List Int)) (k : Nat) (h : k < l.length) : (l.take (k + 1)).flatten = (l.take k).flatten ++ l.getD k [] := by
  rw [List.take_succ_eq_append_getElem h, List.flatten_append]
  simp [List.getD, List.getElem?_eq_getElem h]
theorem take_snoc (l : List Int) (k : Nat) (h : k < l.length) : l.take (k + 1) = l.take k ++ [l.getD k 0] := by
  rw [List.take_succ_eq_append_getElem h]
  simp [List.getD, List.getElem?_eq_getElem h]

/-- what two rows that differ leave differs by what their difference leaves of nought. -/
def zipx : List Int → List Int → List R
  | a :: as, b :: bs => (byt a ^^^ byt b) :: zipx as bs
  | _, _ => []
def rawR (l : R) (ys : List R) : R := ys.foldl (fun l y => txn 8 (l ^^^ y)) l
theorem raw_diff : ∀ (a b : List Int) (s t : R), a.length = b.length → raw s a ^^^ raw t b = rawR (s ^^^ t) (zipx a b) := by
  intro a
  induction a with
  | nil => intro b s t h; cases b with
    | nil => rfl
    | cons _ _ => simp at h
  | cons x a ih =>
    intro b s t h
    cases b with
    | nil => simp at h
    | cons y b =>
      show raw (step s x) a ^^^ raw (step t y) b = rawR (txn 8 ((s ^^^ t) ^^^ (byt x ^^^ byt y))) (zipx a b)
      rw [ih _ _ _ (by simpa using h)]
      congr 1
      unfold step
      rw [← txn_xor]
      congr 1
      ac_rfl

/-- is the number of ones odd? -/
def par : Nat → R → Bool
  | 0, _ => false
  | n + 1, a => par n a ^^ a.getLsbD n
theorem par_xor (n : Nat) (a b : R) : par n (a ^^^ b) = (par n a ^^ par n b) := by
  induction n with
  | zero => rfl
  | succ n ih =>
    show (par n (a ^^^ b) ^^ (a ^^^ b).getLsbD n) = ((par n a ^^ a.getLsbD n) ^^ (par n b ^^ b.getLsbD n))
    rw [ih, BitVec.getLsbD_xor]
    cases par n a <;> cases par n b <;> cases a.getLsbD n <;> cases b.getLsbD n <;> rfl
theorem par_shift (a : R) (n : Nat) : (par n (a >>> 1) ^^ a.getLsbD 0) = par (n + 1) a := by
  induction n with
  | zero => simp [par]
  | succ n ih =>
    show ((par n (a >>> 1) ^^ (a >>> 1).getLsbD n) ^^ a.getLsbD 0) = (par (n + 1) a ^^ a.getLsbD (n + 1))
    rw [← ih, BitVec.getLsbD_ushiftRight, Nat.add_comm 1 n]
    cases par n (a >>> 1) <;> cases a.getLsbD (n + 1) <;> cases a.getLsbD 0 <;> rfl
theorem par_tx (a : R) : par 32 (tx a) = par 32 a := by
  unfold tx
  rw [par_xor]
  have h1 : par 32 (a >>> 1) = par 31 (a >>> 1) := by
    show (par 31 (a >>> 1) ^^ (a >>> 1).getLsbD 31) = _
    rw [BitVec.getLsbD_ushiftRight, BitVec.getLsbD_of_ge a (1 + 31) (by omega)]; simp
  have h2 := par_shift a 31
  rw [h1, ← h2]
  have h3 : par 32 dv = true := by decide +kernel
  have h4 : par 32 0#32 = false := by decide +kernel
  cases a.getLsbD 0
  · simp [h4]
  · simp [h3]
theorem par_txn (n : Nat) : ∀ a, par 32 (txn n a) = par 32 a := by
  induction n with
  | zero => intro a; rfl
  | succ n ih => intro a; show par 32 (txn n (tx a)) = _; rw [ih, par_tx]
def parl : List R → Bool
  | [] => false
  | y :: ys => par 32 y ^^ parl ys
theorem par_rawR (ys : List R) : ∀ s, par 32 (rawR s ys) = (par 32 s ^^ parl ys) := by
  induction ys with
  | nil => intro s; simp [rawR, parl]
  | cons y ys ih =>
    intro s
    show par 32 (rawR (txn 8 (s ^^^ y)) ys) = _
    rw [ih, par_txn, par_xor]
    show _ = (par 32 s ^^ (par 32 y ^^ parl ys))
    cases par 32 s <;> cases par 32 y <;> cases parl ys <;> rfl
theorem sum_odd (a b : List Int) (h : a.length = b.length) (hp : parl (zipx a b) = true) : sum a ≠ sum b := by
  intro e
  have h1 := raw_diff a b ones ones h
  rw [raw_of_sum, raw_of_sum, e, BitVec.xor_self, BitVec.xor_self] at h1
  have h2 := par_rawR (zipx a b) 0#32
  rw [← h1, hp] at h2
  revert h2
  decide +kernel
end Go.Proofs.YtihgikekkgoddaaGreatDoor.Frm
/- Plain mathematics of four bytes of a number behind others: what they leave; no program is named. -/
namespace Go.Proofs.YtihgikekkgoddaaGreatDoor.Frm
theorem txn_shl (k : Nat) : ∀ y : R, k ≤ 32 → y.toNat < 2 ^ (32 - k) → txn k (y <<< k) = y := by
  induction k with
  | zero => intro y _ _; simp [txn]
  | succ k ih =>
    intro y hk hy
    show txn k (tx (y <<< (k + 1))) = y
    have e : tx (y <<< (k + 1)) = y <<< k := by
      rw [tx_even _ (by rw [BitVec.getLsbD_shiftLeft]; simp)]
      apply BitVec.eq_of_getLsbD_eq
      intro i hi
      rw [BitVec.getLsbD_ushiftRight, BitVec.getLsbD_shiftLeft, BitVec.getLsbD_shiftLeft]
      by_cases h1 : 1 + i < 32
      · have e1 : 1 + i - (k + 1) = i - k := by omega
        have e2 : decide (1 + i < k + 1) = decide (i < k) := by rw [Bool.eq_iff_iff]; simp; omega
        simp [h1, hi, e1, e2]
      · have hi31 : i = 31 := by omega
        subst hi31
        have hz : y.getLsbD (31 - k) = false := by
          rw [BitVec.getLsbD]
          exact Nat.testBit_lt_two_pow (by rw [show 32 - (k + 1) = 31 - k by omega] at hy; exact hy)
        simp [hz]
    rw [e]
    exact ih y (by omega) (Nat.lt_of_lt_of_le hy (Nat.pow_le_pow_right (by omega) (by omega)))
def four (n : Int) : List Int := [n % 256, n / 256 % 256, n / 65536 % 256, n / 16777216 % 256]
theorem four_in (n : Int) : ∀ z ∈ four n, 0 ≤ z ∧ z < 256 := by
  intro z hz
  simp [four] at hz
  rcases hz with rfl | rfl | rfl | rfl <;> omega
theorem byt_lt (z : Int) (h0 : 0 ≤ z) (h : z < 256) : (byt z).toNat < 256 := by
  unfold byt; rw [BitVec.toNat_ofInt]; omega
theorem byt_part (t : R) (s i : Nat) : (byt ((t.toNat : Int) / (2 ^ s : Nat) % 256)).getLsbD i = (decide (i < 8) && t.getLsbD (s + i)) := by
  have e : (byt ((t.toNat : Int) / (2 ^ s : Nat) % 256)).toNat = t.toNat / 2 ^ s % 2 ^ 8 := by
    unfold byt
    rw [BitVec.toNat_ofInt]
    have : ((t.toNat : Int) / (2 ^ s : Nat) % 256) = ((t.toNat / 2 ^ s % 2 ^ 8 : Nat) : Int) := by
      rw [← Int.natCast_ediv]; omega
    rw [this]
    omega
  rw [BitVec.getLsbD, e, Nat.testBit_mod_two_pow, Nat.testBit_div_two_pow, BitVec.getLsbD, Nat.add_comm]
theorem four_all (t : R) : byt ((t.toNat : Int) % 256) ^^^ (byt ((t.toNat : Int) / 256 % 256) <<< 8) ^^^ (byt ((t.toNat : Int) / 65536 % 256) <<< 16) ^^^ (byt ((t.toNat : Int) / 16777216 % 256) <<< 24) = t := by
  have p0 := byt_part t 0
  have p1 := byt_part t 8
  have p2 := byt_part t 16
  have p3 := byt_part t 24
  have q0 : (t.toNat : Int) % 256 = (t.toNat : Int) / (2 ^ 0 : Nat) % 256 := by simp
  have q1 : (t.toNat : Int) / 256 % 256 = (t.toNat : Int) / (2 ^ 8 : Nat) % 256 := rfl
  have q2 : (t.toNat : Int) / 65536 % 256 = (t.toNat : Int) / (2 ^ 16 : Nat) % 256 := rfl
  have q3 : (t.toNat : Int) / 16777216 % 256 = (t.toNat : Int) / (2 ^ 24 : Nat) % 256 := rfl
  rw [q0, q1, q2, q3]
  apply BitVec.eq_of_getLsbD_eq
  intro i hi
  rw [BitVec.getLsbD_xor, BitVec.getLsbD_xor, BitVec.getLsbD_xor, BitVec.getLsbD_shiftLeft, BitVec.getLsbD_shiftLeft, BitVec.getLsbD_shiftLeft, p0 i, p1 (i - 8), p2 (i - 16), p3 (i - 24), Nat.zero_add]
  by_cases h8 : i < 8
  · simp [h8, show i < 16 by omega, show i < 24 by omega]
  · by_cases h16 : i < 16
    · simp [h8, h16, hi, show i < 24 by omega, show i - 8 < 8 by omega, show 8 + (i - 8) = i by omega]
    · by_cases h24 : i < 24
      · simp [h8, h16, h24, hi, show ¬ i - 8 < 8 by omega, show i - 16 < 8 by omega, show 16 + (i - 16) = i by omega]
      · simp [h8, h16, h24, hi, show ¬ i - 8 < 8 by omega, show ¬ i - 16 < 8 by omega, show i - 24 < 8 by omega, show 24 + (i - 24) = i by omega]
theorem raw_four (l t : R) : raw l (four (t.toNat : Int)) = txn 32 (l ^^^ t) := by
  have e1 := txn_shl 8 (byt ((t.toNat : Int) / 256 % 256)) (by omega) (Nat.lt_of_lt_of_le (byt_lt _ (by omega) (by omega)) (by decide))
  have e2 := txn_shl 16 (byt ((t.toNat : Int) / 65536 % 256)) (by omega) (Nat.lt_of_lt_of_le (byt_lt _ (by omega) (by omega)) (by decide))
  have e3 := txn_shl 24 (byt ((t.toNat : Int) / 16777216 % 256)) (by omega) (Nat.lt_of_lt_of_le (byt_lt _ (by omega) (by omega)) (by decide))
  have ha := four_all t
  have hr : raw l (four (t.toNat : Int)) = txn 8 (txn 8 (txn 8 (txn 8 (l ^^^ byt ((t.toNat : Int) % 256)) ^^^ byt ((t.toNat : Int) / 256 % 256)) ^^^ byt ((t.toNat : Int) / 65536 % 256)) ^^^ byt ((t.toNat : Int) / 16777216 % 256)) := rfl
  rw [hr]
  generalize byt ((t.toNat : Int) % 256) = y0 at *
  generalize byt ((t.toNat : Int) / 256 % 256) = y1 at *
  generalize byt ((t.toNat : Int) / 65536 % 256) = y2 at *
  generalize byt ((t.toNat : Int) / 16777216 % 256) = y3 at *
  have f1 : txn 8 (l ^^^ y0) ^^^ y1 = txn 8 (l ^^^ y0 ^^^ y1 <<< 8) := by rw [txn_xor 8 (l ^^^ y0), e1]
  have f2 : txn 8 (txn 8 (l ^^^ y0 ^^^ y1 <<< 8)) ^^^ y2 = txn 16 (l ^^^ y0 ^^^ y1 <<< 8 ^^^ y2 <<< 16) := by rw [← txn_add, txn_xor 16 (l ^^^ y0 ^^^ y1 <<< 8), e2]
  have f3 : txn 8 (txn 16 (l ^^^ y0 ^^^ y1 <<< 8 ^^^ y2 <<< 16)) ^^^ y3 = txn 24 (l ^^^ y0 ^^^ y1 <<< 8 ^^^ y2 <<< 16 ^^^ y3 <<< 24) := by rw [← txn_add, txn_xor 24 (l ^^^ y0 ^^^ y1 <<< 8 ^^^ y2 <<< 16), e3]
  rw [f1, f2, f3, ← txn_add]
  rw [← ha]
  simp only [BitVec.xor_assoc]
theorem with_right (b : List Int) : sum (b ++ four ((sum b).toNat : Int)) = 0x48674bc7#32 := by
  show raw ones _ ^^^ ones = _
  rw [raw_append, raw_four, raw_of_sum, BitVec.xor_comm (sum b), BitVec.xor_assoc, BitVec.xor_self, BitVec.xor_zero]
  decide +kernel
theorem with_other (b : List Int) (o : R) : sum (b ++ four ((sum b ^^^ o).toNat : Int)) = 0x48674bc7#32 ^^^ txn 32 o := by
  show raw ones _ ^^^ ones = _
  rw [raw_append, raw_four, raw_of_sum, show sum b ^^^ ones ^^^ (sum b ^^^ o) = (sum b ^^^ sum b) ^^^ (ones ^^^ o) by ac_rfl, BitVec.xor_self, BitVec.zero_xor, txn_xor]
  rw [show (0x48674bc7#32 : R) = txn 32 ones ^^^ ones by decide +kernel]
  ac_rfl
theorem other_iff (o : R) : (0x48674bc7#32 ^^^ txn 32 o = 0x48674bc7#32) ↔ o = 0#32 := by
  constructor
  · intro h
    apply txn_inj_zero 32
    have : 0x48674bc7#32 ^^^ (0x48674bc7#32 ^^^ txn 32 o) = 0x48674bc7#32 ^^^ 0x48674bc7#32 := by rw [h]
    rw [← BitVec.xor_assoc, BitVec.xor_self, BitVec.zero_xor] at this
    exact this
  · intro h; subst h; rw [txn_zero, BitVec.xor_zero]
end Go.Proofs.YtihgikekkgoddaaGreatDoor.Frm
/- Plain mathematics of frames: numbers in bytes, the frame of a record, what a beginning is read as, rows of frames; no program is named. -/
namespace Go.Proofs.YtihgikekkgoddaaGreatDoor.Frm
def Byt (zs : List Int) : Prop := ∀ z ∈ zs, 0 ≤ z ∧ z < 256
theorem Byt.app {a b : List Int} (h : Byt a) (k : Byt b) : Byt (a ++ b) := fun z hz => (List.mem_append.1 hz).elim (h z) (k z)
theorem Byt.left {a b : List Int} (h : Byt (a ++ b)) : Byt a := fun z hz => h z (List.mem_append.2 (.inl hz))
theorem Byt.right {a b : List Int} (h : Byt (a ++ b)) : Byt b := fun z hz => h z (List.mem_append.2 (.inr hz))
theorem Byt.take {a : List Int} (h : Byt a) (n : Nat) : Byt (a.take n) := fun z hz => h z (List.mem_of_mem_take hz)
theorem Byt.drop {a : List Int} (h : Byt a) (n : Nat) : Byt (a.drop n) := fun z hz => h z (List.mem_of_mem_drop hz)
/-- a number in bytes. -/
def vi (n : Nat) : List Int := if n < 128 then [(n : Int)] else ((128 + n % 128 : Nat) : Int) :: vi (n / 128)
theorem vi_lt {n : Nat} (h : n < 128) : vi n = [(n : Int)] := by rw [vi, if_pos h]
theorem vi_ge {n : Nat} (h : ¬ n < 128) : vi n = ((128 + n % 128 : Nat) : Int) :: vi (n / 128) := by rw [vi, if_neg h]
theorem vi_two {n : Nat} (h : ¬ n < 128) (h2 : n < 16384) : vi n = [((128 + n % 128 : Nat) : Int), ((n / 128 : Nat) : Int)] := by rw [vi_ge h, vi_lt (by omega)]
theorem vi_three {n : Nat} (h2 : ¬ n < 16384) (h3 : n < 2097152) : vi n = [((128 + n % 128 : Nat) : Int), ((128 + n / 128 % 128 : Nat) : Int), ((n / 16384 : Nat) : Int)] := by
  rw [vi_ge (by omega), vi_ge (by omega), vi_lt (by omega), show n / 128 / 128 = n / 16384 by omega]
theorem vi_byt : ∀ (m n : Nat), n ≤ m → Byt (vi n) := by
  intro m
  induction m with
  | zero => intro n h z hz; rw [vi_lt (by omega)] at hz; simp at hz; omega
  | succ m ih =>
    intro n h
    by_cases h1 : n < 128
    · intro z hz; rw [vi_lt h1] at hz; simp at hz; omega
    · intro z hz; rw [vi_ge h1] at hz
      rcases List.mem_cons.1 hz with rfl | hz
      · omega
      · exact ih _ (by omega) z hz
def wide (n : Nat) : Nat := if n < 128 then 1 else if n < 16384 then 2 else 3
theorem vi_len {n : Nat} (h : n < 2097152) : (vi n).length = wide n := by
  unfold wide
  by_cases h1 : n < 128
  · rw [vi_lt h1, if_pos h1]; rfl
  · by_cases h2 : n < 16384
    · rw [vi_two h1 h2, if_neg h1, if_pos h2]; rfl
    · rw [vi_three h2 h, if_neg h1, if_neg h2]; rfl
theorem wide_mono {m n : Nat} (h : m + wide m = n + wide n) : m = n := by
  unfold wide at h
  split at h <;> split at h <;> (try split at h) <;> (try split at h) <;> omega
/-- the number that bytes begin with, and how many bytes it has. -/
def lenP : List Int → Option (Nat × Nat)
  | [] => none
  | c :: b => if c < 128 then some (c.toNat, 1) else match b with
    | [] => none
    | d :: b => if d < 128 then (if d = 0 then none else some ((c - 128 + 128 * d).toNat, 2)) else match b with
      | [] => none
      | e :: _ => if e < 128 then (if e = 0 then none else some ((c - 128 + 128 * (d - 128) + 16384 * e).toNat, 3)) else none
theorem lenP_vi {n : Nat} (h : n < 2097152) (r : List Int) : lenP (vi n ++ r) = some (n, (vi n).length) := by
  by_cases h1 : n < 128
  · rw [vi_lt h1]; simp [lenP]; omega
  · by_cases h2 : n < 16384
    · rw [vi_two h1 h2]
      have a1 : ¬ ((128 + n % 128 : Nat) : Int) < 128 := by omega
      have a2 : ((n / 128 : Nat) : Int) < 128 := by omega
      have a3 : ¬ ((n / 128 : Nat) : Int) = 0 := by omega
      simp only [List.cons_append, List.nil_append, lenP, if_neg a1, if_pos a2, if_neg a3]
      simp; omega
    · rw [vi_three h2 h]
      have a1 : ¬ ((128 + n % 128 : Nat) : Int) < 128 := by omega
      have a2 : ¬ ((128 + n / 128 % 128 : Nat) : Int) < 128 := by omega
      have a3 : ((n / 16384 : Nat) : Int) < 128 := by omega
      have a4 : ¬ ((n / 16384 : Nat) : Int) = 0 := by omega
      simp only [List.cons_append, List.nil_append, lenP, if_neg a1, if_neg a2, if_pos a3, if_neg a4]
      simp; omega
theorem lenP_some {b : List Int} (hb : Byt b) {n k : Nat} (h : lenP b = some (n, k)) : n < 2097152 ∧ k = (vi n).length ∧ b = vi n ++ b.drop k := by
  match b, hb, h with
  | [], _, h => cases h
  | c :: b, hb, h =>
    have hc := hb c (by simp)
    unfold lenP at h
    dsimp only at h
    by_cases c1 : c < 128
    · rw [if_pos c1] at h; cases h
      rw [vi_lt (by omega)]
      refine ⟨by omega, rfl, ?_⟩
      simp; omega
    · rw [if_neg c1] at h
      match b, hb, h with
      | [], _, h => cases h
      | d :: b, hb, h =>
        have hd := hb d (by simp)
        dsimp only at h
        by_cases d1 : d < 128
        · rw [if_pos d1] at h
          by_cases d0 : d = 0
          · rw [if_pos d0] at h; cases h
          · rw [if_neg d0] at h; cases h
            rw [vi_two (by omega) (by omega)]
            refine ⟨by omega, rfl, ?_⟩
            simp; omega
        · rw [if_neg d1] at h
          match b, hb, h with
          | [], _, h => cases h
          | e :: b, hb, h =>
            have he := hb e (by simp)
            dsimp only at h
            by_cases e1 : e < 128
            · rw [if_pos e1] at h
              by_cases e0 : e = 0
              · rw [if_pos e0] at h; cases h
              · rw [if_neg e0] at h; cases h
                rw [vi_three (by omega) (by omega)]
                refine ⟨by omega, rfl, ?_⟩
                simp; omega
            · rw [if_neg e1] at h; cases h
/-- the frame of a record. -/
def fr (p : List Int) : List Int := vi p.length ++ p ++ four ((sum (vi p.length ++ p)).toNat : Int)
theorem four_len (n : Int) : (four n).length = 4 := rfl
theorem fr_len (p : List Int) : (fr p).length = (vi p.length).length + p.length + 4 := by simp [fr, four_len]; omega
theorem fr_pos (p : List Int) : 5 ≤ (fr p).length := by
  rw [fr_len]
  have : (vi p.length).length ≠ 0 := by
    by_cases h : p.length < 128
    · rw [vi_lt h]; simp
    · rw [vi_ge h]; simp
  omega
theorem fr_byt {p : List Int} (h : Byt p) : Byt (fr p) := ((vi_byt _ _ (Nat.le_refl _)).app h).app (four_in _)
/-- what bytes begin with: a record, and how many bytes its frame has. -/
def nextP (b : List Int) : Option (List Int × Nat) :=
  match lenP b with
  | none => none
  | some (n, k) => if 65536 < n ∨ b.length < k + n + 4 then none else if (b.drop (k + n)).take 4 = four ((sum (b.take (k + n))).toNat : Int) then some ((b.drop k).take n, k + n + 4) else none
theorem next_fr {p : List Int} (h : p.length ≤ 65536) (r : List Int) : nextP (fr p ++ r) = some (p, (fr p).length) := by
  have e : fr p ++ r = vi p.length ++ (p ++ four ((sum (vi p.length ++ p)).toNat : Int) ++ r) := by simp [fr]
  unfold nextP
  rw [e, lenP_vi (by omega)]
  have hl : ¬ (65536 < p.length ∨ (vi p.length ++ (p ++ four ((sum (vi p.length ++ p)).toNat : Int) ++ r)).length < (vi p.length).length + p.length + 4) := by simp [four_len]; omega
  have e1 : (vi p.length ++ (p ++ four ((sum (vi p.length ++ p)).toNat : Int) ++ r)).take ((vi p.length).length + p.length) = vi p.length ++ p := by
    rw [show vi p.length ++ (p ++ four ((sum (vi p.length ++ p)).toNat : Int) ++ r) = (vi p.length ++ p) ++ (four ((sum (vi p.length ++ p)).toNat : Int) ++ r) by simp]
    rw [List.take_left' (by simp)]
  have e2 : (vi p.length ++ (p ++ four ((sum (vi p.length ++ p)).toNat : Int) ++ r)).drop ((vi p.length).length + p.length) = four ((sum (vi p.length ++ p)).toNat : Int) ++ r := by
    rw [show vi p.length ++ (p ++ four ((sum (vi p.length ++ p)).toNat : Int) ++ r) = (vi p.length ++ p) ++ (four ((sum (vi p.length ++ p)).toNat : Int) ++ r) by simp]
    rw [List.drop_left' (by simp)]
  dsimp only
  rw [if_neg hl, e1, e2, List.take_left' (four_len _), if_pos rfl, fr_len, List.drop_left' rfl]
  simp
theorem next_some {b : List Int} (hb : Byt b) {p : List Int} {u : Nat} (h : nextP b = some (p, u)) : p.length ≤ 65536 ∧ u = (fr p).length ∧ b = fr p ++ b.drop u := by
  unfold nextP at h
  split at h
  · cases h
  · rename_i n k hk
    obtain ⟨h1, h2, h3⟩ := lenP_some hb hk
    split at h
    · cases h
    · rename_i hn
      split at h
      · rename_i hs
        cases h
        have hl : ((b.drop k).take n).length = n := by simp; omega
        have e1 : b.take (k + n) = vi n ++ (b.drop k).take n := by
          conv => lhs; rw [h3]
          rw [List.take_append, h2, List.take_of_length_le (by omega)]
          simp
        have e2 : fr ((b.drop k).take n) = b.take (k + n) ++ (b.drop (k + n)).take 4 := by
          unfold fr
          rw [hl, ← e1, hs]
        have e3 : (fr ((b.drop k).take n)).length = k + n + 4 := by rw [fr_len, hl, h2]
        refine ⟨by rw [hl]; omega, e3.symm, ?_⟩
        rw [e2, show b.drop (k + n + 4) = (b.drop (k + n)).drop 4 by rw [List.drop_drop], List.append_assoc, List.take_append_drop, List.take_append_drop]
      · cases h
theorem fr_inj {p q r s : List Int} (hp : p.length ≤ 65536) (hq : q.length ≤ 65536) (h : fr p ++ r = fr q ++ s) : p = q ∧ r = s := by
  have h1 := next_fr hp r
  rw [h, next_fr hq s] at h1
  cases h1
  exact ⟨rfl, by simpa using h⟩
/-- a proper beginning of a frame is none. -/
theorem torn {p : List Int} (hb : Byt p) (hp : p.length ≤ 65536) {k : Nat} (hk : k < (fr p).length) : nextP ((fr p).take k) = none := by
  cases h : nextP ((fr p).take k) with
  | none => rfl
  | some x =>
    obtain ⟨q, u⟩ := x
    obtain ⟨h1, h2, h3⟩ := next_some ((fr_byt hb).take k) h
    have h4 : fr p ++ [] = fr q ++ (((fr p).take k).drop u ++ (fr p).drop k) := by
      rw [← List.append_assoc, ← h3, List.take_append_drop, List.append_nil]
    obtain ⟨h5, h6⟩ := fr_inj hp h1 h4
    have : (fr p).length = k := by
      have h7 := congrArg List.length h6
      simp at h7
      omega
    omega
theorem next_nil : nextP [] = none := rfl
theorem next_noughts (m : Nat) : nextP (List.replicate m 0) = none := by
  cases m with
  | zero => rfl
  | succ m =>
    unfold nextP
    have : lenP (List.replicate (m + 1) 0) = some (0, 1) := by simp [List.replicate_succ, lenP]
    rw [this]
    dsimp only
    split
    · rfl
    · rename_i h
      have hm : 4 ≤ m := by simp at h; omega
      obtain ⟨j, rfl⟩ : ∃ j, m = 4 + j := ⟨m - 4, by omega⟩
      have e1 : ((List.replicate (4 + j + 1) (0 : Int)).drop (1 + 0)).take 4 = [0, 0, 0, 0] := by
        rw [show 4 + j + 1 = 1 + 0 + (4 + j) by omega, List.drop_replicate]
        rw [show 1 + 0 + (4 + j) - (1 + 0) = 4 + j by omega, List.take_replicate, show min 4 (4 + j) = 4 by omega]
        rfl
      have e2 : (List.replicate (4 + j + 1) (0 : Int)).take (1 + 0) = [0] := by
        rw [List.take_replicate, show min (1 + 0) (4 + j + 1) = 1 by omega]; rfl
      rw [e1, e2, if_neg (by decide +kernel)]
/-- frames, one behind the other. -/
def rows (l : List (List Int)) : List Int := (l.map fr).flatten
theorem rows_nil : rows [] = [] := rfl
theorem rows_cons (p : List Int) (l : List (List Int)) : rows (p :: l) = fr p ++ rows l := rfl
theorem rows_app (l m : List (List Int)) : rows (l ++ m) = rows l ++ rows m := by simp [rows]
/-- bytes are whole frames of l, and then r, which begins with none. -/
def Reads (b : List Int) (l : List (List Int)) (r : List Int) : Prop := b = rows l ++ r ∧ (∀ p ∈ l, p.length ≤ 65536) ∧ nextP r = none
theorem reads_any : ∀ (n : Nat) (b : List Int), b.length ≤ n → Byt b → ∃ l r, Reads b l r := by
  intro n
  induction n with
  | zero =>
    intro b h _
    obtain rfl : b = [] := List.eq_nil_of_length_eq_zero (by omega)
    exact ⟨[], [], rfl, by simp, rfl⟩
  | succ n ih =>
    intro b h hb
    cases hn : nextP b with
    | none => exact ⟨[], b, rfl, by simp, hn⟩
    | some x =>
      obtain ⟨p, u⟩ := x
      obtain ⟨h1, h2, h3⟩ := next_some hb hn
      have := fr_pos p
      obtain ⟨l, r, e1, e2, e3⟩ := ih (b.drop u) (by simp; omega) (hb.drop u)
      refine ⟨p :: l, r, ?_, ?_, e3⟩
      · rw [rows_cons, List.append_assoc, ← e1]; exact h3
      · intro q hq
        rcases List.mem_cons.1 hq with rfl | hq
        · exact h1
        · exact e2 q hq
theorem reads_one : ∀ (l l' : List (List Int)) (b r r' : List Int), Reads b l r → Reads b l' r' → l = l' ∧ r = r' := by
  intro l
  induction l with
  | nil =>
    intro l' b r r' h h'
    obtain ⟨h1, h2, h3⟩ := h
    obtain ⟨k1, k2, k3⟩ := h'
    cases l' with
    | nil => exact ⟨rfl, by rw [h1] at k1; exact k1⟩
    | cons p l' =>
      rw [h1] at k1
      have : nextP r = some (p, (fr p).length) := by
        rw [show r = fr p ++ (rows l' ++ r') by rw [← List.append_assoc, ← rows_cons, ← k1]; rfl]
        exact next_fr (k2 p (by simp)) _
      rw [h3] at this; cases this
  | cons p l ih =>
    intro l' b r r' h h'
    obtain ⟨h1, h2, h3⟩ := h
    obtain ⟨k1, k2, k3⟩ := h'
    cases l' with
    | nil =>
      rw [k1] at h1
      have : nextP r' = some (p, (fr p).length) := by
        rw [show r' = fr p ++ (rows l ++ r) by rw [← List.append_assoc, ← rows_cons, ← h1]; rfl]
        exact next_fr (h2 p (by simp)) _
      rw [k3] at this; cases this
    | cons q l' =>
      rw [h1, rows_cons, rows_cons, List.append_assoc, List.append_assoc] at k1
      obtain ⟨rfl, e⟩ := fr_inj (h2 p (by simp)) (k2 q (by simp)) k1
      obtain ⟨rfl, rfl⟩ := ih l' (rows l ++ r) r r' ⟨rfl, fun x hx => h2 x (by simp [hx]), h3⟩ ⟨e, fun x hx => k2 x (by simp [hx]), k3⟩
      exact ⟨rfl, rfl⟩
/-- the k-th record stands behind the frames ahead of it. -/
theorem reads_at {b r : List Int} {l : List (List Int)} (h : Reads b l r) (k : Nat) (hk : k < l.length) : nextP (b.drop (rows (l.take k)).length) = some (l.getD k [], (fr (l.getD k [])).length) := by
  obtain ⟨h1, h2, h3⟩ := h
  have e : l = l.take k ++ l.getD k [] :: l.drop (k + 1) := by
    conv => lhs; rw [← List.take_append_drop k l]
    rw [List.drop_eq_getElem_cons hk]
    simp [List.getD, List.getElem?_eq_getElem hk]
  have e2 : b.drop (rows (l.take k)).length = fr (l.getD k []) ++ (rows (l.drop (k + 1)) ++ r) := by
    rw [h1]
    conv => lhs; rw [show rows l = rows (l.take k) ++ rows (l.getD k [] :: l.drop (k + 1)) by rw [← rows_app, ← e]]
    rw [List.append_assoc, List.drop_left' rfl, rows_cons, List.append_assoc]
  rw [e2]
  refine next_fr (h2 _ ?_) _
  simp [List.getD, List.getElem?_eq_getElem hk]
theorem reads_end {b r : List Int} {l : List (List Int)} (h : Reads b l r) : nextP (b.drop (rows l).length) = none := by
  obtain ⟨h1, h2, h3⟩ := h
  rw [h1, List.drop_left' rfl]; exact h3
theorem rows_take_succ (l : List (List Int)) (k : Nat) (hk : k < l.length) : rows (l.take (k + 1)) = rows (l.take k) ++ fr (l.getD k []) := by
  rw [List.take_succ_eq_append_getElem hk, rows_app]
  simp [List.getD, List.getElem?_eq_getElem hk, rows]
theorem rows_take_le (l : List (List Int)) (k : Nat) : (rows (l.take k)).length ≤ (rows l).length := by
  conv => rhs; rw [← List.take_append_drop k l, rows_app]
  simp
theorem next_le {b : List Int} (hb : Byt b) {p : List Int} {u : Nat} (h : nextP b = some (p, u)) : u ≤ b.length ∧ p.length ≤ 65536 ∧ 5 ≤ u := by
  obtain ⟨h1, h2, h3⟩ := next_some hb h
  have h4 := congrArg List.length h3
  have := fr_pos p
  simp at h4
  omega
end Go.Proofs.YtihgikekkgoddaaGreatDoor.Frm
/- Plain mathematics of a row of frames that is cut; no program is named. -/
namespace Go.Proofs.YtihgikekkgoddaaGreatDoor.Frm
theorem all_of_rows {l : List (List Int)} (hl : ∀ p ∈ l, p.length ≤ 65536) : Reads (rows l) l [] := ⟨by simp, hl, rfl⟩
theorem torn_reads {l : List (List Int)} (hl : ∀ p ∈ l, p.length ≤ 65536) (hb : ∀ p ∈ l, Byt p) {k cut : Nat} (hk : k ≤ l.length) (h1 : (rows (l.take k)).length ≤ cut) (h2 : cut ≤ (rows l).length) (h3 : k = l.length ∨ cut < (rows (l.take (k + 1))).length) (hne : cut ≠ (rows (l.take k)).length) :
    ∃ r, Reads ((rows l).take cut) (l.take k) r := by
  have hlt : k < l.length := by
    rcases h3 with rfl | h3
    · rw [List.take_length] at h1 hne; omega
    · by_cases h : k < l.length
      · exact h
      · have e1 : l.take (k + 1) = l.take k := by rw [List.take_of_length_le (by omega), List.take_of_length_le (by omega)]
        rw [e1] at h3; omega
  have hlt3 : cut < (rows (l.take (k + 1))).length := by
    rcases h3 with rfl | h3
    · omega
    · exact h3
  have hsu := rows_take_succ l k hlt
  rw [hsu, List.length_append] at hlt3
  have hm : l.getD k [] ∈ l := by simp [List.getD, List.getElem?_eq_getElem hlt]
  refine ⟨(fr (l.getD k [])).take (cut - (rows (l.take k)).length), ?_, fun p hp => hl p (List.mem_of_mem_take hp), torn (hb _ hm) (hl _ hm) (by omega)⟩
  have e : rows l = rows (l.take k) ++ (fr (l.getD k []) ++ rows (l.drop (k + 1))) := by
    rw [← List.append_assoc, ← hsu, ← rows_app, List.take_append_drop]
  rw [e, List.take_append, List.take_of_length_le h1]
  congr 1
  rw [List.take_append, show cut - (rows (l.take k)).length - (fr (l.getD k [])).length = 0 by omega]
  simp
theorem cut_reads {l : List (List Int)} (hl : ∀ p ∈ l, p.length ≤ 65536) {k : Nat} (m : Nat) : Reads ((rows l).take (rows (l.take k)).length ++ List.replicate m 0) (l.take k) (List.replicate m 0) := by
  refine ⟨?_, fun p hp => hl p (List.mem_of_mem_take hp), next_noughts m⟩
  congr 1
  have e : rows l = rows (l.take k) ++ rows (l.drop k) := by rw [← rows_app, List.take_append_drop]
  rw [e, List.take_left' rfl]
end Go.Proofs.YtihgikekkgoddaaGreatDoor.Frm
