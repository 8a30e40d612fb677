/- Plain mathematics of sums of bytes: what a row of bytes leaves; two rows behind one another; an odd number of bits; four bytes of a number; no program is named. -/
import Derived.Test.YtffopkpbekjanaaPlain
namespace Go.Proofs.Ytffopkpbekjanaa
def ones : R := 0xffffffff#32
def byt (z : Int) : R := BitVec.ofInt 32 z
def step (l : R) (z : Int) : R := txn 8 (l ^^^ byt z)
def raw (l : R) (zs : List Int) : R := zs.foldl step l
def sum (zs : List Int) : R := raw ones zs ^^^ ones
theorem raw_nil (l : R) : raw l [] = l := rfl
theorem raw_append (l : R) (a b : List Int) : raw l (a ++ b) = raw (raw l a) b := by unfold raw; rw [List.foldl_append]
theorem raw_snoc (l : R) (a : List Int) (z : Int) : raw l (a ++ [z]) = step (raw l a) z := by rw [raw_append]; rfl
theorem raw_xor (zs : List Int) : ∀ a b, raw (a ^^^ b) zs = raw a zs ^^^ txn (8 * zs.length) b := by
  induction zs with
  | nil => intro a b; rfl
  | cons z zs ih =>
    intro a b
    show raw (step (a ^^^ b) z) zs = raw (step a z) zs ^^^ _
    have : step (a ^^^ b) z = step a z ^^^ txn 8 b := by
      unfold step
      rw [show (a ^^^ b) ^^^ byt z = (a ^^^ byt z) ^^^ b by ac_rfl, txn_xor]
    rw [this, ih, ← txn_add]
    congr 2
    simp; omega
theorem raw_of_sum (zs : List Int) : raw ones zs = sum zs ^^^ ones := by
  unfold sum; rw [BitVec.xor_assoc, BitVec.xor_self, BitVec.xor_zero]
theorem sum_append (a b : List Int) : sum (a ++ b) = txn (8 * b.length) (sum a) ^^^ sum b := by
  show raw ones (a ++ b) ^^^ ones = _
  rw [raw_append, raw_of_sum a, BitVec.xor_comm (sum a) ones, raw_xor]
  show _ = _ ^^^ (raw ones b ^^^ ones)
  ac_rfl
theorem sum_nil : sum [] = 0#32 := by decide +kernel

theorem flat_take (l : List (List Int)) (k : Nat) (h : k < l.length) : (l.take (k + 1)).flatten = (l.take k).flatten ++ l.getD k [] := by
  rw [List.take_succ_eq_append_getElem h, List.flatten_append]
  simp [List.getD, List.getElem?_eq_getElem h]
theorem take_snoc (l : List Int) (k : Nat) (h : k < l.length) : l.take (k + 1) = l.take k ++ [l.getD k 0] := by
  rw [List.take_succ_eq_append_getElem h]
  simp [List.getD, List.getElem?_eq_getElem h]

/-- what two rows that differ leave differs by what their difference leaves of nought. -/
def zipx : List Int → List Int → List R
  | a :: as, b :: bs => (byt a ^^^ byt b) :: zipx as bs
  | _, _ => []
def rawR (l : R) (ys : List R) : R := ys.foldl (fun l y => txn 8 (l ^^^ y)) l
theorem raw_diff : ∀ (a b : List Int) (s t : R), a.length = b.length → raw s a ^^^ raw t b = rawR (s ^^^ t) (zipx a b) := by
  intro a
  induction a with
  | nil => intro b s t h; cases b with
    | nil => rfl
    | cons _ _ => simp at h
  | cons x a ih =>
    intro b s t h
    cases b with
    | nil => simp at h
    | cons y b =>
      show raw (step s x) a ^^^ raw (step t y) b = rawR (txn 8 ((s ^^^ t) ^^^ (byt x ^^^ byt y))) (zipx a b)
      rw [ih _ _ _ (by simpa using h)]
      congr 1
      unfold step
      rw [← txn_xor]
      congr 1
      ac_rfl

/-- is the number of ones odd? -/
def par : Nat → R → Bool
  | 0, _ => false
  | n + 1, a => par n a ^^ a.getLsbD n
theorem par_xor (n : Nat) (a b : R) : par n (a ^^^ b) = (par n a ^^ par n b) := by
  induction n with
  | zero => rfl
  | succ n ih =>
    show (par n (a ^^^ b) ^^ (a ^^^ b).getLsbD n) = ((par n a ^^ a.getLsbD n) ^^ (par n b ^^ b.getLsbD n))
    rw [ih, BitVec.getLsbD_xor]
    cases par n a <;> cases par n b <;> cases a.getLsbD n <;> cases b.getLsbD n <;> rfl
theorem par_shift (a : R) (n : Nat) : (par n (a >>> 1) ^^ a.getLsbD 0) = par (n + 1) a := by
  induction n with
  | zero => simp [par]
  | succ n ih =>
    show ((par n (a >>> 1) ^^ (a >>> 1).getLsbD n) ^^ a.getLsbD 0) = (par (n + 1) a ^^ a.getLsbD (n + 1))
    rw [← ih, BitVec.getLsbD_ushiftRight, Nat.add_comm 1 n]
    cases par n (a >>> 1) <;> cases a.getLsbD (n + 1) <;> cases a.getLsbD 0 <;> rfl
theorem par_tx (a : R) : par 32 (tx a) = par 32 a := by
  unfold tx
  rw [par_xor]
  have h1 : par 32 (a >>> 1) = par 31 (a >>> 1) := by
    show (par 31 (a >>> 1) ^^ (a >>> 1).getLsbD 31) = _
    rw [BitVec.getLsbD_ushiftRight, BitVec.getLsbD_of_ge a (1 + 31) (by omega)]; simp
  have h2 := par_shift a 31
  rw [h1, ← h2]
  have h3 : par 32 dv = true := by decide +kernel
  have h4 : par 32 0#32 = false := by decide +kernel
  cases a.getLsbD 0
  · simp [h4]
  · simp [h3]
theorem par_txn (n : Nat) : ∀ a, par 32 (txn n a) = par 32 a := by
  induction n with
  | zero => intro a; rfl
  | succ n ih => intro a; show par 32 (txn n (tx a)) = _; rw [ih, par_tx]
def parl : List R → Bool
  | [] => false
  | y :: ys => par 32 y ^^ parl ys
theorem par_rawR (ys : List R) : ∀ s, par 32 (rawR s ys) = (par 32 s ^^ parl ys) := by
  induction ys with
  | nil => intro s; simp [rawR, parl]
  | cons y ys ih =>
    intro s
    show par 32 (rawR (txn 8 (s ^^^ y)) ys) = _
    rw [ih, par_txn, par_xor]
    show _ = (par 32 s ^^ (par 32 y ^^ parl ys))
    cases par 32 s <;> cases par 32 y <;> cases parl ys <;> rfl
theorem sum_odd (a b : List Int) (h : a.length = b.length) (hp : parl (zipx a b) = true) : sum a ≠ sum b := by
  intro e
  have h1 := raw_diff a b ones ones h
  rw [raw_of_sum, raw_of_sum, e, BitVec.xor_self, BitVec.xor_self] at h1
  have h2 := par_rawR (zipx a b) 0#32
  rw [← h1, hp] at h2
  revert h2
  decide +kernel
end Go.Proofs.Ytffopkpbekjanaa
