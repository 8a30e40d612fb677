/- Plain mathematics of the package fixed: saturation, a sum, a number's text read and written, as functions on integers and lists of bytes; no program in it. -/
import Derived.Lib.ItoaNum
import Derived.Lib.ItoaMem
import Derived.Lib.ItoaLen
import Derived.Lib.TrimByte
import Derived.Lib.Strings
namespace Go.Proofs.YtdiflalllajagaaDoor

def sat (x : Int) : Int := if 4611686018427387903 < x then 4611686018427387903 else if x < -4611686018427387903 then -4611686018427387903 else x
theorem sat_lo (x : Int) : -4611686018427387903 ≤ sat x := by unfold sat; split <;> (try split) <;> omega
theorem sat_hi (x : Int) : sat x ≤ 4611686018427387903 := by unfold sat; split <;> (try split) <;> omega
theorem sat_gt {x : Int} (h : 4611686018427387903 < x) : 4611686018427387903 = sat x := by unfold sat; rw [if_pos h]
theorem sat_lt {x : Int} (h : x < -4611686018427387903) : -4611686018427387903 = sat x := by unfold sat; rw [if_neg (by omega), if_pos h]
theorem sat_in {x : Int} (h : -4611686018427387903 ≤ x) (h' : x ≤ 4611686018427387903) : x = sat x := by unfold sat; rw [if_neg (by omega), if_neg (by omega)]
theorem sat_le {x : Int} (h : x ≤ -4611686018427387903) : -4611686018427387903 = sat x := by
  unfold sat; rw [if_neg (by omega)]; split <;> omega
theorem sat_sat (x : Int) : sat (sat x) = sat x := (sat_in (sat_lo x) (sat_hi x)).symm
theorem sat_neg (x : Int) : sat (-x) = -sat x := by unfold sat; split <;> split <;> (try split) <;> (try split) <;> omega

def add (a b : Int) : Int := sat (sat a + sat b)
def sumOf (l : List Int) : Int := l.foldl add 0
theorem sumOf_snoc (l : List Int) (x : Int) : sumOf (l ++ [x]) = add (sumOf l) x := by simp [sumOf]
theorem take_next (l : List Int) (k : Nat) (h : k < l.length) : l.take (k + 1) = l.take k ++ [l.getD k 0] := by
  rw [List.take_succ_eq_append_getElem h]; simp [List.getD, h]

/-- A number with one digit more behind it. -/
def beh (n d : Int) : Int := if (4611686018427387903 - d) / 10 < n then 4611686018427387903 else n * 10 + d
theorem beh_gt {n d : Int} (h : (4611686018427387903 - d) / 10 < n) : 4611686018427387903 = beh n d := by unfold beh; rw [if_pos h]
theorem beh_le {n d : Int} (h : ¬ (4611686018427387903 - d) / 10 < n) : n * 10 + d = beh n d := by unfold beh; rw [if_neg h]
theorem beh_lo {n d : Int} (h : 0 ≤ n) (h0 : 0 ≤ d) : 0 ≤ beh n d := by unfold beh; split <;> omega
theorem beh_hi (n d : Int) : beh n d ≤ 4611686018427387903 := by unfold beh; split <;> omega

/-- A text's digits and point, up to the first byte that does not fit: what is left, the number so far, how many digits ahead of the point and behind it, whether the point was met. -/
def scan : List UInt8 → Int → Nat → Nat → Bool → List UInt8 × Int × Nat × Nat × Bool
  | [], n, wh, d, p => ([], n, wh, d, p)
  | c :: t, n, wh, d, p =>
    if c = 46 ∧ p = false then scan t n wh d true
    else if c.toNat < 48 ∨ 57 < c.toNat ∨ d = 3 then (c :: t, n, wh, d, p)
    else if p = true then scan t (beh n (c.toNat - 48)) wh (d + 1) p
    else scan t (beh n (c.toNat - 48)) (wh + 1) d p

/-- So many noughts behind a number. -/
def padN : Nat → Int → Int
  | 0, n => n
  | k + 1, n => padN k (beh n 0)

def Bad (r : List UInt8 × Int × Nat × Nat × Bool) : Bool := !r.1.isEmpty || r.2.2.1 == 0 || (r.2.2.2.2 && r.2.2.2.1 == 0)
def body (l : List UInt8) : List UInt8 × Int × Nat × Nat × Bool := scan (Lib.trimPrefix l [45]) 0 0 0 false
def parseN (l : List UInt8) : Int := if Bad (body l) then 0 else if Lib.hasPrefix l [45] then -padN (3 - (body l).2.2.2.1) (body l).2.1 else padN (3 - (body l).2.2.2.1) (body l).2.1
def parseE (l : List UInt8) : Int := if Bad (body l) then 10 else 0

theorem scan_point {c : UInt8} (t : List UInt8) (n : Int) (wh d : Nat) (h : c = 46) : scan (c :: t) n wh d false = scan t n wh d true := by
  subst h; rw [scan, if_pos ⟨rfl, rfl⟩]
theorem scan_stop {c : UInt8} (t : List UInt8) (n : Int) (wh d : Nat) (p : Bool) (h : ¬ (c = 46 ∧ p = false)) (h2 : c.toNat < 48 ∨ 57 < c.toNat ∨ d = 3) : scan (c :: t) n wh d p = (c :: t, n, wh, d, p) := by
  rw [scan, if_neg h, if_pos h2]
theorem ne46 {c : UInt8} (h : 48 ≤ c.toNat) : ¬ c = 46 := by intro e; subst e; exact absurd h (by decide)
theorem scan_dec {c : UInt8} (t : List UInt8) (n : Int) (wh d : Nat) (h1 : 48 ≤ c.toNat) (h2 : c.toNat ≤ 57) (h3 : d ≠ 3) : scan (c :: t) n wh d true = scan t (beh n (c.toNat - 48)) wh (d + 1) true := by
  rw [scan, if_neg (fun h => by cases h.2), if_neg (by omega), if_pos rfl]
theorem scan_whole {c : UInt8} (t : List UInt8) (n : Int) (wh d : Nat) (h1 : 48 ≤ c.toNat) (h2 : c.toNat ≤ 57) (h3 : d ≠ 3) : scan (c :: t) n wh d false = scan t (beh n (c.toNat - 48)) (wh + 1) d false := by
  rw [scan, if_neg (fun h => ne46 h1 h.1), if_neg (by omega), if_neg (fun h => by cases h)]
theorem parse_bad {l : List UInt8} (h : Bad (body l) = true) : parseN l = 0 ∧ parseE l = 10 := by
  unfold parseN parseE; rw [h]; exact ⟨rfl, rfl⟩
theorem bad_left {l t : List UInt8} {c : UInt8} {n : Int} {wh d : Nat} {p : Bool} (h : (c :: t, n, wh, d, p) = body l) : Bad (body l) = true := by rw [← h]; rfl
theorem bad_whole {l t : List UInt8} {n : Int} {wh d : Nat} {p : Bool} (h : (t, n, wh, d, p) = body l) (h0 : wh = 0) : Bad (body l) = true := by rw [← h]; subst h0; simp [Bad]
theorem bad_point {l t : List UInt8} {n : Int} {wh d : Nat} (h : (t, n, wh, d, true) = body l) (h0 : d = 0) : Bad (body l) = true := by rw [← h]; subst h0; simp [Bad]
theorem parse_good {l : List UInt8} {n : Int} {wh d : Nat} {p : Bool} (h : ([], n, wh, d, p) = body l) (h1 : wh ≠ 0) (h2 : p = true → d ≠ 0) :
    parseE l = 0 ∧ parseN l = (if Lib.hasPrefix l [45] then -padN (3 - d) n else padN (3 - d) n) := by
  have hb : Bad (body l) = false := by
    rw [← h]; cases p <;> simp [Bad, h1, h2]
  unfold parseN parseE
  rw [hb, ← h]
  exact ⟨rfl, rfl⟩
theorem scan_nil (n : Int) (wh d : Nat) (p : Bool) : scan [] n wh d p = ([], n, wh, d, p) := rfl
theorem padN_lo : ∀ (k : Nat) {n : Int}, 0 ≤ n → 0 ≤ padN k n
  | 0, _, h => h
  | k + 1, _, h => padN_lo k (beh_lo h (by omega))
theorem padN_hi : ∀ (k : Nat) {n : Int}, n ≤ 4611686018427387903 → padN k n ≤ 4611686018427387903
  | 0, _, h => h
  | k + 1, _, _ => padN_hi k (beh_hi _ _)
theorem padN_next (d : Nat) (n : Int) (h : d < 3) : padN (3 - d) n = padN (3 - (d + 1)) (beh n 0) := by
  rw [show 3 - d = (3 - (d + 1)) + 1 by omega, padN]

/-- The text of a number of thousandths that is not below 0. -/
def digitsOf (m : Int) : List UInt8 := Lib.decDigits (m / 1000).toNat ++ (if 0 < m % 1000 then 46 :: Lib.trimRightB (Lib.decDigits (1000 + m % 1000).toNat).tail 48 else [])
def printL (x : Int) : List UInt8 := if sat x < 0 then 45 :: digitsOf (-sat x) else digitsOf (sat x)
theorem dec_len_pos (u : Nat) : 1 ≤ (Lib.decDigits u).length := by rw [Lib.decDigits_length]; exact Lib.nDigits_pos u
theorem dec_len (u : Nat) (h : u < 18446744073709551616) : (Lib.decDigits u).length ≤ 20 := by rw [Lib.decDigits_length]; exact Lib.nDigits_le20 u h
theorem trim_len (l : List UInt8) (c : UInt8) : (Lib.trimRightB l c).length ≤ l.length := by
  unfold Lib.trimRightB
  rw [List.length_reverse]
  have := (List.dropWhile_suffix (p := (· == c)) (l := l.reverse)).length_le
  simpa using this
end Go.Proofs.YtdiflalllajagaaDoor
