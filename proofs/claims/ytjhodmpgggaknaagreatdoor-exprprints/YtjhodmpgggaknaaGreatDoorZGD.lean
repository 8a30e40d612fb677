/- Joined: NPlain NTexts NTexts2 NTexts3. -/
import Derived.Lib.ItoaNum
import Derived.Lib.ItoaMem
import Derived.Lib.ItoaLen
import Derived.Lib.TrimByte
import Derived.Lib.Strings
/- Plain mathematics of the package fixed: saturation, a sum, a number's text read and written, as functions on integers and lists of bytes; no program in it. -/
namespace Go.Proofs.YtjhodmpgggaknaaGreatDoor.Num

def sat (x : Int) : Int := if 4611686018427387903 < x then 4611686018427387903 else if x < -4611686018427387903 then -4611686018427387903 else x
theorem sat_lo (x : Int) : -4611686018427387903 ≤ sat x := by unfold sat; split <;> (try split) <;> omega
theorem sat_hi (x : Int) : sat x ≤ 4611686018427387903 := by unfold sat; split <;> (try split) <;> omega
theorem sat_gt {x : Int} (h : 4611686018427387903 < x) : 4611686018427387903 = sat x := by unfold sat; rw [if_pos h]
theorem sat_lt {x : Int} (h : x < -4611686018427387903) : -4611686018427387903 = sat x := by unfold sat; rw [if_neg (by omega), if_pos h]
theorem sat_in {x : Int} (h : -4611686018427387903 ≤ x) (h' : x ≤ 4611686018427387903) : x = sat x := by unfold sat; rw [if_neg (by omega), if_neg (by omega)]
theorem sat_le {x : Int} (h : x ≤ -4611686018427387903) : -4611686018427387903 = sat x := by
  unfold sat; rw [if_neg (by omega)]; split <;> omega
def add (a b : Int) : Int := sat (sat a + sat b)
/-- A number with one digit more behind it. -/
def beh (n d : Int) : Int := if (4611686018427387903 - d) / 10 < n then 4611686018427387903 else n * 10 + d
theorem beh_gt {n d : Int} (h : (4611686018427387903 - d) / 10 < n) : 4611686018427387903 = beh n d := by unfold beh; rw [if_pos h]
theorem beh_le {n d : Int} (h : ¬ (4611686018427387903 - d) / 10 < n) : n * 10 + d = beh n d := by unfold beh; rw [if_neg h]
theorem beh_lo {n d : Int} (h : 0 ≤ n) (h0 : 0 ≤ d) : 0 ≤ beh n d := by unfold beh; split <;> omega
theorem beh_hi (n d : Int) : beh n d ≤ 4611686018427387903 := by unfold beh; split <;> omega

/-- A text's digits and point, up to the first byte that does not fit: what is left, the number so far, how many digits ahead of the point and behind it, whether the point was met. -/
def scan : List UInt8 → Int → Nat → Nat → Bool → List UInt8 × Int × Nat × Nat × Bool
  | [], n, wh, d, p => ([], n, wh, d, p)
  | c :: t, n, wh, d, p =>
    if c = 46 ∧ p = false then scan t n wh d true
    else if c.toNat < 48 ∨ 57 < c.toNat ∨ d = 3 then (c :: t, n, wh, d, p)
    else if p = true then scan t (beh n (c.toNat - 48)) wh (d + 1) p
    else scan t (beh n (c.toNat - 48)) (wh + 1) d p

/-- So many noughts behind a number. -/
def padN : Nat → Int → Int
  | 0, n => n
  | k + 1, n => padN k (beh n 0)

def Bad (r : List UInt8 × Int × Nat × Nat × Bool) : Bool := !r.1.isEmpty || r.2.2.1 == 0 || (r.2.2.2.2 && r.2.2.2.1 == 0)
def body (l : List UInt8) : List UInt8 × Int × Nat × Nat × Bool := scan (Lib.trimPrefix l [45]) 0 0 0 false
def parseN (l : List UInt8) : Int := if Bad (body l) then 0 else if Lib.hasPrefix l [45] then -padN (3 - (body l).2.2.2.1) (body l).2.1 else padN (3 - (body l).2.2.2.1) (body l).2.1
def parseE (l : List UInt8) : Int := if Bad (body l) then 10 else 0

theorem scan_point {c : UInt8} (t : List UInt8) (n : Int) (wh d : Nat) (h : c = 46) : scan (c :: t) n wh d false = scan t n wh d true := by
  subst h; rw [scan, if_pos ⟨rfl, rfl⟩]
theorem scan_stop {c : UInt8} (t : List UInt8) (n : Int) (wh d : Nat) (p : Bool) (h : ¬ (c = 46 ∧ p = false)) (h2 : c.toNat < 48 ∨ 57 < c.toNat ∨ d = 3) : scan (c :: t) n wh d p = (c :: t, n, wh, d, p) := by
  rw [scan, if_neg h, if_pos h2]
theorem ne46 {c : UInt8} (h : 48 ≤ c.toNat) : ¬ c = 46 := by intro e; subst e; exact absurd h (by decide)
theorem scan_dec {c : UInt8} (t : List UInt8) (n : Int) (wh d : Nat) (h1 : 48 ≤ c.toNat) (h2 : c.toNat ≤ 57) (h3 : d ≠ 3) : scan (c :: t) n wh d true = scan t (beh n (c.toNat - 48)) wh (d + 1) true := by
  rw [scan, if_neg (fun h => by cases h.2), if_neg (by omega), if_pos rfl]
theorem scan_whole {c : UInt8} (t : List UInt8) (n : Int) (wh d : Nat) (h1 : 48 ≤ c.toNat) (h2 : c.toNat ≤ 57) (h3 : d ≠ 3) : scan (c :: t) n wh d false = scan t (beh n (c.toNat - 48)) (wh + 1) d false := by
  rw [scan, if_neg (fun h => ne46 h1 h.1), if_neg (by omega), if_neg (fun h => by cases h)]
theorem parse_bad {l : List UInt8} (h : Bad (body l) = true) : parseN l = 0 ∧ parseE l = 10 := by
  unfold parseN parseE; rw [h]; exact ⟨rfl, rfl⟩
theorem parse_good {l : List UInt8} {n : Int} {wh d : Nat} {p : Bool} (h : ([], n, wh, d, p) = body l) (h1 : wh ≠ 0) (h2 : p = true → d ≠ 0) :
    parseE l = 0 ∧ parseN l = (if Lib.hasPrefix l [45] then -padN (3 - d) n else padN (3 - d) n) := by
  have hb : Bad (body l) = false := by
    rw [← h]; cases p <;> simp [Bad, h1, h2]
  unfold parseN parseE
  rw [hb, ← h]
  exact ⟨rfl, rfl⟩
theorem scan_nil (n : Int) (wh d : Nat) (p : Bool) : scan [] n wh d p = ([], n, wh, d, p) := rfl
theorem padN_next (d : Nat) (n : Int) (h : d < 3) : padN (3 - d) n = padN (3 - (d + 1)) (beh n 0) := by
  rw [show 3 - d = (3 - (d + 1)) + 1 by omega, padN]

/-- The text of a number of thousandths that is not below 0. -/
def digitsOf (m : Int) : List UInt8 := Lib.decDigits (m / 1000).toNat ++ (if 0 < m % 1000 then 46 :: Lib.trimRightB (Lib.decDigits (1000 + m % 1000).toNat).tail 48 else [])
def printL (x : Int) : List UInt8 := if sat x < 0 then 45 :: digitsOf (-sat x) else digitsOf (sat x)
theorem dec_len_pos (u : Nat) : 1 ≤ (Lib.decDigits u).length := by rw [Lib.decDigits_length]; exact Lib.nDigits_pos u
theorem dec_len (u : Nat) (h : u < 18446744073709551616) : (Lib.decDigits u).length ≤ 20 := by rw [Lib.decDigits_length]; exact Lib.nDigits_le20 u h
theorem trim_len (l : List UInt8) (c : UInt8) : (Lib.trimRightB l c).length ≤ l.length := by
  unfold Lib.trimRightB
  rw [List.length_reverse]
  have := (List.dropWhile_suffix (p := (· == c)) (l := l.reverse)).length_le
  simpa using this
end Go.Proofs.YtjhodmpgggaknaaGreatDoor.Num
/- Plain mathematics of a number's text: what is read of digits is their number, at most the bound; what is written is read as the same number. No program in it. -/
namespace Go.Proofs.YtjhodmpgggaknaaGreatDoor.Num

def satN (a : Int) : Int := if 4611686018427387903 < a then 4611686018427387903 else a
def val (a : Int) (l : List UInt8) : Int := l.foldl (fun x c => x * 10 + ((c.toNat : Int) - 48)) a
def Dig (l : List UInt8) : Prop := ∀ c ∈ l, 48 ≤ c.toNat ∧ c.toNat ≤ 57

theorem Dig.nil : Dig [] := fun _ h => by cases h
theorem Dig.cons {c : UInt8} {l : List UInt8} (h : 48 ≤ c.toNat ∧ c.toNat ≤ 57) (hl : Dig l) : Dig (c :: l) := fun x hx => by
  rcases List.mem_cons.1 hx with rfl | hx
  · exact h
  · exact hl x hx
theorem Dig.head {c : UInt8} {l : List UInt8} (h : Dig (c :: l)) : 48 ≤ c.toNat ∧ c.toNat ≤ 57 := h c (List.mem_cons_self)
theorem Dig.tail {c : UInt8} {l : List UInt8} (h : Dig (c :: l)) : Dig l := fun x hx => h x (List.mem_cons_of_mem _ hx)
theorem Dig.append {a b : List UInt8} (ha : Dig a) (hb : Dig b) : Dig (a ++ b) := fun x hx => by
  rcases List.mem_append.1 hx with h | h
  · exact ha x h
  · exact hb x h
theorem Dig.left {a b : List UInt8} (h : Dig (a ++ b)) : Dig a := fun x hx => h x (List.mem_append_left _ hx)
theorem Dig.right {a b : List UInt8} (h : Dig (a ++ b)) : Dig b := fun x hx => h x (List.mem_append_right _ hx)

theorem val_cons (a : Int) (c : UInt8) (l : List UInt8) : val a (c :: l) = val (a * 10 + ((c.toNat : Int) - 48)) l := rfl
theorem val_append (a : Int) (l m : List UInt8) : val a (l ++ m) = val (val a l) m := by simp [val]
theorem val_nonneg : ∀ (l : List UInt8) {a : Int}, 0 ≤ a → Dig l → 0 ≤ val a l
  | [], _, h, _ => h
  | c :: l, a, h, hd => by
    rw [val_cons]
    exact val_nonneg l (by have := hd.head; omega) hd.tail
theorem val_shift : ∀ (l : List UInt8) (a : Int), val a l = a * 10 ^ l.length + val 0 l
  | [], a => by simp [val]
  | c :: l, a => by
    rw [val_cons, val_cons, val_shift l (a * 10 + ((c.toNat : Int) - 48)), val_shift l (0 * 10 + ((c.toNat : Int) - 48)), List.length_cons, Int.pow_succ]
    generalize (10 : Int) ^ l.length = p
    rw [Int.add_mul, Int.add_mul, Int.mul_assoc, Int.mul_comm 10 p]
    simp [Int.add_assoc]
theorem val_lt : ∀ (l : List UInt8), Dig l → val 0 l < 10 ^ l.length
  | [], _ => by simp [val]
  | c :: l, hd => by
    rw [val_cons, val_shift l, List.length_cons, Int.pow_succ]
    have h := val_lt l hd.tail
    have hp : (0 : Int) < 10 ^ l.length := Int.pow_pos (by decide)
    have h9 := Int.mul_le_mul_of_nonneg_right (show (0 * 10 + ((c.toNat : Int) - 48)) ≤ 9 by have := hd.head; omega) (Int.le_of_lt hp)
    omega

theorem beh_satN {a d : Int} (_h : 0 ≤ a) (h0 : 0 ≤ d) (h9 : d ≤ 9) : beh (satN a) d = satN (a * 10 + d) := by
  unfold satN
  by_cases h1 : 4611686018427387903 < a
  · rw [if_pos h1, if_pos (by omega), ← beh_gt (by omega)]
  · rw [if_neg h1]
    by_cases h2 : (4611686018427387903 - d) / 10 < a
    · rw [if_pos (by omega), ← beh_gt h2]
    · rw [if_neg (by omega), ← beh_le h2]
theorem satN_in {a : Int} (h : a ≤ 4611686018427387903) : satN a = a := by unfold satN; rw [if_neg (by omega)]
theorem satN_hi (a : Int) : satN a ≤ 4611686018427387903 := by unfold satN; split <;> omega
theorem satN_lo {a : Int} (h : 0 ≤ a) : 0 ≤ satN a := by unfold satN; split <;> omega
theorem satN_ne {a : Int} (h : satN a ≠ 4611686018427387903) : satN a = a := by
  unfold satN at *
  split at h
  · exact absurd rfl h
  · rename_i h'; rw [if_neg h']

theorem scan_digits : ∀ (ds t : List UInt8) (a : Int) (wh d : Nat), Dig ds → 0 ≤ a → d ≠ 3 → scan (ds ++ t) (satN a) wh d false = scan t (satN (val a ds)) (wh + ds.length) d false
  | [], t, a, wh, d, _, _, _ => rfl
  | c :: ds, t, a, wh, d, hd, ha, h3 => by
    have hc := hd.head
    rw [List.cons_append, scan_whole _ _ _ _ hc.1 hc.2 h3, beh_satN ha (by omega) (by omega), scan_digits ds t _ (wh + 1) d hd.tail (by omega) h3, val_cons, List.length_cons]
    congr 1; omega
theorem scan_decs : ∀ (ds : List UInt8) (a : Int) (wh d : Nat), Dig ds → 0 ≤ a → d + ds.length ≤ 3 → scan ds (satN a) wh d true = ([], satN (val a ds), wh, d + ds.length, true)
  | [], a, wh, d, _, _, _ => rfl
  | c :: ds, a, wh, d, hd, ha, h3 => by
    have hc := hd.head
    rw [List.length_cons] at h3
    rw [scan_dec _ _ _ _ hc.1 hc.2 (by omega), beh_satN ha (by omega) (by omega), scan_decs ds _ wh (d + 1) hd.tail (by omega) (by omega), val_cons, List.length_cons]
    rw [show d + 1 + ds.length = d + (ds.length + 1) by omega]
theorem padN_satN : ∀ (k : Nat) {a : Int}, 0 ≤ a → padN k (satN a) = satN (a * 10 ^ k)
  | 0, a, _ => by simp [padN]
  | k + 1, a, h => by
    rw [padN, beh_satN h (by omega) (by omega), padN_satN k (by omega), Int.pow_succ]
    congr 1
    rw [Int.add_zero, Int.mul_assoc, Int.mul_comm 10]

/-- A text of digits and perhaps a point and digits. -/
def Shape (l ds ps : List UInt8) (p : Bool) : Prop := Dig ds ∧ Dig ps ∧ ps.length ≤ 3 ∧ l = (if p = true then ds ++ 46 :: ps else ds) ∧ (p = false → ps = [])
theorem scan_of_shape {l ds ps : List UInt8} {p : Bool} (h : Shape l ds ps p) : scan l 0 0 0 false = ([], satN (val 0 (ds ++ ps)), ds.length, ps.length, p) := by
  obtain ⟨hd, hp, h3, rfl, h0⟩ := h
  have e0 : (0 : Int) = satN 0 := rfl
  cases p
  · obtain rfl := h0 rfl
    have := scan_digits ds [] 0 0 0 hd (by omega) (by omega)
    rw [List.append_nil, ← e0] at this
    simp only [Bool.false_eq_true, if_false, this, List.append_nil, scan_nil, Nat.zero_add, List.length_nil]
  · have := scan_digits ds (46 :: ps) 0 0 0 hd (by omega) (by omega)
    rw [← e0, scan_point ps _ _ _ rfl, scan_decs ps _ _ _ hp (val_nonneg ds (by omega) hd) (by omega), Nat.zero_add, Nat.zero_add] at this
    simp only [if_true, this, val_append]
theorem scan_shape_dec : ∀ (t : List UInt8) (n : Int) (wh d : Nat) (r : Int × Nat × Nat × Bool), d ≤ 3 → scan t n wh d true = ([], r) → Dig t ∧ d + t.length ≤ 3
  | [], _, _, d, _, h3, _ => ⟨Dig.nil, by simpa using h3⟩
  | c :: t, n, wh, d, r, h3, h => by
    by_cases hs : c.toNat < 48 ∨ 57 < c.toNat ∨ d = 3
    · rw [scan_stop t n wh d true (fun h => by cases h.2) hs] at h
      cases h
    · rw [scan_dec t n wh d (by omega) (by omega) (by omega)] at h
      obtain ⟨a, b⟩ := scan_shape_dec t _ wh (d + 1) r (by omega) h
      exact ⟨Dig.cons ⟨by omega, by omega⟩ a, by rw [List.length_cons]; omega⟩
theorem scan_shape : ∀ (t : List UInt8) (n : Int) (wh : Nat) (r : Int × Nat × Nat × Bool), scan t n wh 0 false = ([], r) → ∃ ds ps p, Shape t ds ps p
  | [], _, _, _, _ => ⟨[], [], false, Dig.nil, Dig.nil, by simp, rfl, fun _ => rfl⟩
  | c :: t, n, wh, r, h => by
    by_cases h46 : c = 46
    · rw [scan_point t n wh 0 h46] at h
      obtain ⟨a, b⟩ := scan_shape_dec t _ _ _ r (by omega) h
      exact ⟨[], t, true, Dig.nil, a, by simpa using b, by rw [h46]; rfl, fun h => by cases h⟩
    · by_cases hs : c.toNat < 48 ∨ 57 < c.toNat ∨ 0 = 3
      · rw [scan_stop t n wh 0 false (fun h => h46 h.1) hs] at h
        cases h
      · rw [scan_whole t n wh 0 (by omega) (by omega) (by omega)] at h
        obtain ⟨ds, ps, p, hd, hp, h3, rfl, h0⟩ := scan_shape t _ _ r h
        refine ⟨c :: ds, ps, p, Dig.cons ⟨by omega, by omega⟩ hd, hp, h3, ?_, h0⟩
        cases p <;> rfl
end Go.Proofs.YtjhodmpgggaknaaGreatDoor.Num
/- Plain mathematics of a number's text, its second part: a text of the right shape is read as its number; a number's text has that shape, is read as that number, and is the shortest one. No program in it. -/
namespace Go.Proofs.YtjhodmpgggaknaaGreatDoor.Num

theorem has_cons (c : UInt8) (t : List UInt8) : Lib.hasPrefix (c :: t) [45] = ((45 : UInt8) == c) := by
  simp [Lib.hasPrefix, List.isPrefixOf]
theorem trim_minus (t : List UInt8) : Lib.trimPrefix (45 :: t) [45] = t := by
  unfold Lib.trimPrefix; rw [has_cons]; simp
theorem trim_other {l : List UInt8} (h : Lib.hasPrefix l [45] = false) : Lib.trimPrefix l [45] = l := by
  unfold Lib.trimPrefix; rw [h]; rfl
theorem no_minus {c : UInt8} (t : List UInt8) (h : 48 ≤ c.toNat ∧ c.toNat ≤ 57) : Lib.hasPrefix (c :: t) [45] = false := by
  rw [has_cons, beq_eq_false_iff_ne]
  intro e
  rw [← e] at h
  exact absurd h.1 (by decide)

theorem Shape.begins {l ds ps : List UInt8} {p : Bool} (h : Shape l ds ps p) (h1 : ds ≠ []) : Lib.hasPrefix l [45] = false := by
  obtain ⟨hd, hp, h3, rfl, h0⟩ := h
  cases ds with
  | nil => exact absurd rfl h1
  | cons c t =>
    cases p
    · exact no_minus t hd.head
    · exact no_minus (t ++ 46 :: ps) hd.head
theorem body_shape {l ds ps : List UInt8} {p : Bool} (h : Shape l ds ps p) (h1 : ds ≠ []) : ([], satN (val 0 (ds ++ ps)), ds.length, ps.length, p) = body l := by
  unfold body; rw [trim_other (h.begins h1), scan_of_shape h]
theorem body_minus {l ds ps : List UInt8} {p : Bool} (h : Shape l ds ps p) : ([], satN (val 0 (ds ++ ps)), ds.length, ps.length, p) = body (45 :: l) := by
  unfold body; rw [trim_minus, scan_of_shape h]
theorem Shape.val0 {l ds ps : List UInt8} {p : Bool} (h : Shape l ds ps p) : 0 ≤ val 0 (ds ++ ps) := val_nonneg _ (by omega) (h.1.append h.2.1)
theorem parse_shape {l ds ps : List UInt8} {p : Bool} (h : Shape l ds ps p) (h1 : ds ≠ []) (h2 : p = true → ps ≠ []) :
    parseN l = satN (val 0 (ds ++ ps) * 10 ^ (3 - ps.length)) ∧ parseE l = 0 := by
  have hg := parse_good (body_shape h h1) (by cases ds with | nil => exact absurd rfl h1 | cons _ _ => simp) (fun e => by
    have := h2 e
    cases ps with | nil => exact absurd rfl this | cons _ _ => simp)
  rw [h.begins h1, padN_satN _ h.val0] at hg
  exact ⟨hg.2, hg.1⟩
theorem parse_minus {l ds ps : List UInt8} {p : Bool} (h : Shape l ds ps p) (h1 : ds ≠ []) (h2 : p = true → ps ≠ []) :
    parseN (45 :: l) = -satN (val 0 (ds ++ ps) * 10 ^ (3 - ps.length)) ∧ parseE (45 :: l) = 0 := by
  have hg := parse_good (body_minus h) (by cases ds with | nil => exact absurd rfl h1 | cons _ _ => simp) (fun e => by
    have := h2 e
    cases ps with | nil => exact absurd rfl this | cons _ _ => simp)
  rw [has_cons, padN_satN _ h.val0] at hg
  exact ⟨hg.2, hg.1⟩

theorem digit_nat {n : Nat} (h : n < 10) : (UInt8.ofNat (48 + n)).toNat = 48 + n := by
  rw [UInt8.toNat_ofNat']; omega
theorem dec_step (u : Nat) (h : ¬ u < 10) : Lib.decDigits u = Lib.decDigits (u / 10) ++ [UInt8.ofNat (48 + u % 10)] := by rw [Lib.decDigits, dif_neg h]
theorem dec_dig (u : Nat) : Dig (Lib.decDigits u) := by
  induction u using Nat.strongRecOn with
  | _ u ih =>
    by_cases h : u < 10
    · rw [Lib.decDigits_one h]
      exact Dig.cons (by rw [digit_nat h]; omega) Dig.nil
    · rw [dec_step u h]
      exact (ih (u / 10) (by omega)).append (Dig.cons (by rw [digit_nat (by omega)]; omega) Dig.nil)
theorem dec_val (u : Nat) : val 0 (Lib.decDigits u) = u := by
  induction u using Nat.strongRecOn with
  | _ u ih =>
    by_cases h : u < 10
    · rw [Lib.decDigits_one h, val_cons, digit_nat h]
      simp [val]; omega
    · rw [dec_step u h, val_append, ih (u / 10) (by omega), val_cons, digit_nat (by omega)]
      simp [val]; omega
theorem dec_ne (u : Nat) : Lib.decDigits u ≠ [] := by
  intro e
  have := dec_len_pos u
  rw [e] at this
  simp at this

/-- What a cut of the noughts at the end leaves. -/
theorem trim_split (l : List UInt8) : ∃ k, l = Lib.trimRightB l 48 ++ List.replicate k 48 := by
  have h : ∀ m : List UInt8, ∃ k, m = List.replicate k 48 ++ m.dropWhile (· == 48) := by
    intro m
    induction m with
    | nil => exact ⟨0, rfl⟩
    | cons c t ih =>
      by_cases hc : c = 48
      · obtain ⟨k, hk⟩ := ih
        refine ⟨k + 1, ?_⟩
        rw [List.dropWhile_cons_of_pos (by simp [hc]), List.replicate_succ, List.cons_append, ← hk, hc]
      · exact ⟨0, by rw [List.dropWhile_cons_of_neg (by simp [hc])]; rfl⟩
  obtain ⟨k, hk⟩ := h l.reverse
  refine ⟨k, ?_⟩
  have := congrArg List.reverse hk
  rw [List.reverse_reverse, List.reverse_append, List.reverse_replicate] at this
  exact this
theorem val_noughts (a : Int) (k : Nat) : val a (List.replicate k 48) = a * 10 ^ k := by
  induction k generalizing a with
  | zero => simp [val]
  | succ k ih =>
    rw [List.replicate_succ, val_cons, ih, Int.pow_succ]
    rw [show ((48 : UInt8).toNat : Int) - 48 = 0 from rfl, Int.add_zero, Int.mul_assoc, Int.mul_comm 10]

theorem part_len {r : Nat} (h : r < 1000) : (Lib.decDigits (1000 + r)).length = 4 := by
  rw [Lib.decDigits_length, Lib.nDigits_unique 3 (1000 + r) (by omega) (by omega)]
theorem part_val {r : Nat} (h : r < 1000) : Dig (Lib.decDigits (1000 + r)).tail ∧ (Lib.decDigits (1000 + r)).tail.length = 3 ∧ val 0 (Lib.decDigits (1000 + r)).tail = r := by
  have hl := part_len h
  have hd := dec_dig (1000 + r)
  have hv := dec_val (1000 + r)
  cases he : Lib.decDigits (1000 + r) with
  | nil => rw [he] at hl; simp at hl
  | cons c t =>
    rw [he] at hl hd hv
    have h3 : t.length = 3 := by simpa using hl
    have lt := val_lt t hd.tail
    have lo := val_nonneg t (a := 0) (by omega) hd.tail
    rw [val_cons, val_shift t, h3] at hv
    rw [h3] at lt
    have hc := hd.head
    refine ⟨hd.tail, h3, ?_⟩
    show val 0 t = r
    omega

theorem val_split (ds ps : List UInt8) : val 0 (ds ++ ps) = val 0 ds * 10 ^ ps.length + val 0 ps := by rw [val_append, val_shift]
theorem pow_split {k n : Nat} (h : k ≤ n) : (10 : Int) ^ k * 10 ^ (n - k) = 10 ^ n := by rw [← Int.pow_add]; congr 1; omega

theorem digits_shape {m : Int} (h0 : 0 ≤ m) : ∃ ps p, Shape (digitsOf m) (Lib.decDigits (m / 1000).toNat) ps p ∧ (p = true → ps ≠ []) ∧ val 0 (Lib.decDigits (m / 1000).toNat ++ ps) * 10 ^ (3 - ps.length) = m := by
  have hu := dec_val (m / 1000).toNat
  by_cases hp : 0 < m % 1000
  · obtain ⟨d1, d2, d3⟩ := part_val (r := (m % 1000).toNat) (by omega)
    have er : (1000 + m % 1000).toNat = 1000 + (m % 1000).toNat := by omega
    obtain ⟨k, hk⟩ := trim_split (Lib.decDigits (1000 + (m % 1000).toNat)).tail
    generalize ht : Lib.trimRightB (Lib.decDigits (1000 + (m % 1000).toNat)).tail 48 = t at hk
    have hl : t.length + k = 3 := by
      have := congrArg List.length hk
      rw [d2, List.length_append, List.length_replicate] at this
      omega
    have hne : t ≠ [] := by
      rintro rfl
      rw [hk, List.nil_append, val_noughts] at d3
      omega
    have hv : val 0 (Lib.decDigits (m / 1000).toNat ++ t) * 10 ^ k = m := by
      have e1 : val 0 (Lib.decDigits (m / 1000).toNat ++ (Lib.decDigits (1000 + (m % 1000).toNat)).tail) = m := by
        rw [val_split, hu, d2, d3]; omega
      rw [hk, ← List.append_assoc, val_append, val_noughts] at e1
      exact e1
    refine ⟨t, true, ⟨dec_dig _, ?_, by omega, ?_, fun h => by cases h⟩, fun _ => hne, ?_⟩
    · rw [hk] at d1; exact d1.left
    · unfold digitsOf; rw [if_pos hp, er, ht]; rfl
    · rw [show 3 - t.length = k by omega]; exact hv
  · refine ⟨[], false, ⟨dec_dig _, Dig.nil, by simp, ?_, fun _ => rfl⟩, (fun h => by cases h), ?_⟩
    · unfold digitsOf; rw [if_neg hp, List.append_nil]; rfl
    · rw [List.append_nil, hu]; simp; omega

theorem parse_digits {m : Int} (h0 : 0 ≤ m) (h1 : m ≤ 4611686018427387903) : parseN (digitsOf m) = m ∧ parseE (digitsOf m) = 0 := by
  obtain ⟨ps, p, h, hn, hv⟩ := digits_shape h0
  have := parse_shape h (dec_ne _) hn
  rw [hv, satN_in h1] at this
  exact this
theorem parse_minus_digits {m : Int} (h0 : 0 ≤ m) (h1 : m ≤ 4611686018427387903) : parseN (45 :: digitsOf m) = -m ∧ parseE (45 :: digitsOf m) = 0 := by
  obtain ⟨ps, p, h, hn, hv⟩ := digits_shape h0
  have := parse_minus h (dec_ne _) hn
  rw [hv, satN_in h1] at this
  exact this
theorem digits_len {m : Int} (h0 : 0 ≤ m) (h1 : m ≤ 4611686018427387903) : (digitsOf m).length ≤ 24 := by
  unfold digitsOf
  have d1 := dec_len (m / 1000).toNat (by omega)
  by_cases hp : 0 < m % 1000
  · rw [if_pos hp, List.length_append, List.length_cons]
    have d2 := trim_len (Lib.decDigits (1000 + m % 1000).toNat).tail 48
    have d3 := part_len (r := (m % 1000).toNat) (by omega)
    rw [show (1000 + m % 1000).toNat = 1000 + (m % 1000).toNat by omega] at *
    rw [List.length_tail] at d2
    omega
  · rw [if_neg hp, List.append_nil]; omega
theorem print_len (x : Int) : (printL x).length ≤ 25 := by
  have h1 := sat_lo x
  have h2 := sat_hi x
  unfold printL
  by_cases h : sat x < 0
  · rw [if_pos h, List.length_cons]
    have := digits_len (m := -sat x) (by omega) (by omega)
    omega
  · rw [if_neg h]
    have := digits_len (m := sat x) (by omega) h2
    omega
end Go.Proofs.YtjhodmpgggaknaaGreatDoor.Num
/- Plain mathematics of a number's text, its third part: what is read is within the bounds, and the text that is written of it is no longer than the one that was read, unless the bound was met. No program in it. -/
namespace Go.Proofs.YtjhodmpgggaknaaGreatDoor.Num

theorem parse_no {l : List UInt8} (h : parseE l ≠ 0) : parseN l = 0 ∧ parseE l = 10 := by
  cases hb : Bad (body l)
  · exfalso; apply h; unfold parseE; rw [hb]; rfl
  · exact parse_bad hb

/-- A text that is read has the shape of a number's text. -/
theorem parse_inv {l : List UInt8} (h : parseE l = 0) :
    ∃ l' ds ps p, Shape l' ds ps p ∧ ds ≠ [] ∧ (p = true → ps ≠ []) ∧ ((l = l' ∧ parseN l = satN (val 0 (ds ++ ps) * 10 ^ (3 - ps.length))) ∨ (l = 45 :: l' ∧ parseN l = -satN (val 0 (ds ++ ps) * 10 ^ (3 - ps.length)))) := by
  have hb : Bad (body l) = false := by
    cases hb : Bad (body l)
    · rfl
    · have := (parse_bad hb).2; omega
  have hsc : ∃ r, scan (Lib.trimPrefix l [45]) 0 0 0 false = ([], r) := by
    unfold Bad at hb
    cases hs : body l with
    | mk t r =>
      rw [hs] at hb
      cases t with
      | nil => exact ⟨r, hs⟩
      | cons c t => simp at hb
  obtain ⟨r, hr⟩ := hsc
  obtain ⟨ds, ps, p, hsh⟩ := scan_shape _ _ _ r hr
  have hbody : body l = ([], satN (val 0 (ds ++ ps)), ds.length, ps.length, p) := scan_of_shape hsh
  rw [hbody] at hb
  have hd : ds ≠ [] := by
    rintro rfl
    simp [Bad] at hb
  have hp : p = true → ps ≠ [] := by
    rintro rfl rfl
    simp [Bad] at hb
  refine ⟨Lib.trimPrefix l [45], ds, ps, p, hsh, hd, hp, ?_⟩
  cases hm : Lib.hasPrefix l [45]
  · left
    have e := trim_other hm
    exact ⟨e.symm, by have := (parse_shape hsh hd hp).1; rw [e] at this; exact this⟩
  · right
    cases l with
    | nil => simp [Lib.hasPrefix, List.isPrefixOf] at hm
    | cons c t =>
      rw [has_cons] at hm
      have hc : c = 45 := (beq_iff_eq.1 hm).symm
      subst hc
      rw [trim_minus] at hsh ⊢
      exact ⟨rfl, (parse_minus hsh hd hp).1⟩

theorem nDigits_le : ∀ (k u : Nat), u < 10 ^ (k + 1) → Lib.nDigits u ≤ k + 1
  | 0, u, h => by rw [Lib.nDigits_small (by omega)]; omega
  | k + 1, u, h => by
    by_cases hu : u < 10
    · rw [Lib.nDigits_small hu]; omega
    · rw [Lib.nDigits_big hu]
      have := nDigits_le k (u / 10) (by rw [Nat.pow_succ] at h; omega)
      omega
theorem val_inj : ∀ (a b : List UInt8), Dig a → Dig b → a.length = b.length → val 0 a = val 0 b → a = b
  | [], [], _, _, _, _ => rfl
  | [], _ :: _, _, _, h, _ => by simp at h
  | _ :: _, [], _, _, h, _ => by simp at h
  | c :: a, d :: b, ha, hb, hl, hv => by
    have hl' : a.length = b.length := by simpa using hl
    rw [val_cons, val_cons, val_shift a, val_shift b, hl'] at hv
    have la := val_lt a ha.tail
    have lb := val_lt b hb.tail
    have na := val_nonneg a (a := 0) (by omega) ha.tail
    have nb := val_nonneg b (a := 0) (by omega) hb.tail
    rw [hl'] at la
    have hc := ha.head
    have hd := hb.head
    have hcd : c.toNat = d.toNat := by
      generalize (10 : Int) ^ b.length = P at *
      rcases Nat.lt_trichotomy c.toNat d.toNat with h | h | h
      · exfalso
        have := Int.mul_le_mul_of_nonneg_right (show (0 * 10 + ((c.toNat : Int) - 48)) + 1 ≤ 0 * 10 + ((d.toNat : Int) - 48) by omega) (show 0 ≤ P by omega)
        rw [Int.add_mul] at this
        omega
      · exact h
      · exfalso
        have := Int.mul_le_mul_of_nonneg_right (show (0 * 10 + ((d.toNat : Int) - 48)) + 1 ≤ 0 * 10 + ((c.toNat : Int) - 48) by omega) (show 0 ≤ P by omega)
        rw [Int.add_mul] at this
        omega
    rw [UInt8.toNat_inj.1 hcd, val_inj a b ha.tail hb.tail hl' (by rw [hcd] at hv; omega)]
theorem noughts_dig (k : Nat) : Dig (List.replicate k 48) := fun c hc => by
  rw [(List.mem_replicate.1 hc).2]; decide
theorem trim_noughts (a : List UInt8) (k : Nat) : (Lib.trimRightB (a ++ List.replicate k 48) 48).length ≤ a.length := by
  have : Lib.trimRightB (a ++ List.replicate k 48) 48 = Lib.trimRightB a 48 := by
    unfold Lib.trimRightB
    rw [List.reverse_append, List.reverse_replicate]
    congr 1
    induction k with
    | zero => rfl
    | succ k ih => rw [List.replicate_succ, List.cons_append, List.dropWhile_cons_of_pos (by simp)]; exact ih
  rw [this]
  exact trim_len a 48

theorem digits_short {l ds ps : List UInt8} {p : Bool} (h : Shape l ds ps p) (h1 : ds ≠ []) (h2 : p = true → ps ≠ []) : (digitsOf (val 0 (ds ++ ps) * 10 ^ (3 - ps.length))).length ≤ l.length := by
  obtain ⟨hd, hp, h3, hl, h0⟩ := h
  have hV : val 0 (ds ++ ps) * 10 ^ (3 - ps.length) = val 0 ds * 1000 + val 0 (ps ++ List.replicate (3 - ps.length) 48) := by
    rw [val_split, val_append 0 ps, val_noughts, Int.add_mul, Int.mul_assoc, pow_split h3]
    rfl
  have hpd : Dig (ps ++ List.replicate (3 - ps.length) 48) := hp.append (noughts_dig _)
  have hpl : (ps ++ List.replicate (3 - ps.length) 48).length = 3 := by simp; omega
  have lt := val_lt _ hpd
  rw [hpl] at lt
  have nn := val_nonneg _ (a := 0) (by omega) hpd
  have nd := val_nonneg ds (a := 0) (by omega) hd
  rw [hV]
  generalize hr : val 0 (ps ++ List.replicate (3 - ps.length) 48) = r at *
  have ltd := val_lt ds hd
  have hu : (Lib.decDigits (val 0 ds).toNat).length ≤ ds.length := by
    rw [Lib.decDigits_length]
    cases hk : ds.length with
    | zero => exact absurd (List.length_eq_zero_iff.1 hk) h1
    | succ k =>
      apply nDigits_le k
      rw [hk] at ltd
      have : ((10 ^ (k + 1) : Nat) : Int) = (10 : Int) ^ (k + 1) := by simp
      omega
  have e1 : (val 0 ds * 1000 + r) / 1000 = val 0 ds := by omega
  have e2 : (val 0 ds * 1000 + r) % 1000 = r := by omega
  unfold digitsOf
  rw [e1, e2]
  by_cases hr0 : 0 < r
  · have hpt : p = true := by
      cases p
      · have := h0 rfl
        subst this
        rw [List.nil_append, val_noughts] at hr
        omega
      · rfl
    subst hpt
    rw [if_pos hr0, hl]
    simp only [if_true, List.length_append, List.length_cons]
    obtain ⟨d1, d2, d3⟩ := part_val (r := r.toNat) (by omega)
    have heq := val_inj _ _ d1 hpd (by rw [d2, hpl]) (by rw [d3, hr]; omega)
    rw [show (1000 + r).toNat = 1000 + r.toNat by omega, heq]
    have := trim_noughts ps (3 - ps.length)
    omega
  · rw [if_neg hr0, List.append_nil, hl]
    cases p <;> simp <;> omega

theorem back_len {l : List UInt8} (h : parseE l = 0) : -4611686018427387903 ≤ parseN l ∧ parseN l ≤ 4611686018427387903 ∧ ((printL (parseN l)).length ≤ l.length ∨ parseN l = 4611686018427387903 ∨ parseN l = -4611686018427387903) := by
  obtain ⟨l', ds, ps, p, hsh, hd, hp, hor⟩ := parse_inv h
  have hV : 0 ≤ val 0 (ds ++ ps) * 10 ^ (3 - ps.length) := Int.mul_nonneg hsh.val0 (Int.le_of_lt (Int.pow_pos (by decide)))
  have hs := digits_short hsh hd hp
  have b1 := satN_hi (val 0 (ds ++ ps) * 10 ^ (3 - ps.length))
  have b2 := satN_lo hV
  have b3 := @satN_ne (val 0 (ds ++ ps) * 10 ^ (3 - ps.length))
  generalize val 0 (ds ++ ps) * 10 ^ (3 - ps.length) = V at *
  by_cases hM : satN V = 4611686018427387903
  · rcases hor with ⟨_, e⟩ | ⟨_, e⟩ <;> rw [e, hM] <;> refine ⟨by omega, by omega, by omega⟩
  · have e0 := b3 hM
    rw [e0] at b1 b2 hor
    rcases hor with ⟨rfl, e⟩ | ⟨rfl, e⟩
    · rw [e]
      refine ⟨by omega, by omega, .inl ?_⟩
      unfold printL
      rw [← sat_in (by omega) (by omega), if_neg (by omega)]
      exact hs
    · rw [e]
      refine ⟨by omega, by omega, .inl ?_⟩
      unfold printL
      rw [← sat_in (by omega) (by omega), Int.neg_neg, List.length_cons]
      split
      · rw [List.length_cons]; omega
      · have : V = 0 := by omega
        subst this
        simp only [Int.neg_zero]
        omega
end Go.Proofs.YtjhodmpgggaknaaGreatDoor.Num
