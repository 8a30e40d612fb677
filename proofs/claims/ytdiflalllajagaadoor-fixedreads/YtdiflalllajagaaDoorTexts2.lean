/- Plain mathematics of a number's text, its second part: a text of the right shape is read as its number; a number's text has that shape, is read as that number, and is the shortest one. No program in it. -/
import Derived.Test.YtdiflalllajagaaDoorTexts
namespace Go.Proofs.YtdiflalllajagaaDoor

theorem has_cons (c : UInt8) (t : List UInt8) : Lib.hasPrefix (c :: t) [45] = ((45 : UInt8) == c) := by
  simp [Lib.hasPrefix, List.isPrefixOf]
theorem trim_minus (t : List UInt8) : Lib.trimPrefix (45 :: t) [45] = t := by
  unfold Lib.trimPrefix; rw [has_cons]; simp
theorem trim_other {l : List UInt8} (h : Lib.hasPrefix l [45] = false) : Lib.trimPrefix l [45] = l := by
  unfold Lib.trimPrefix; rw [h]; rfl
theorem no_minus {c : UInt8} (t : List UInt8) (h : 48 ≤ c.toNat ∧ c.toNat ≤ 57) : Lib.hasPrefix (c :: t) [45] = false := by
  rw [has_cons, beq_eq_false_iff_ne]
  intro e
  rw [← e] at h
  exact absurd h.1 (by decide)

theorem Shape.begins {l ds ps : List UInt8} {p : Bool} (h : Shape l ds ps p) (h1 : ds ≠ []) : Lib.hasPrefix l [45] = false := by
  obtain ⟨hd, hp, h3, rfl, h0⟩ := h
  cases ds with
  | nil => exact absurd rfl h1
  | cons c t =>
    cases p
    · exact no_minus t hd.head
    · exact no_minus (t ++ 46 :: ps) hd.head
theorem body_shape {l ds ps : List UInt8} {p : Bool} (h : Shape l ds ps p) (h1 : ds ≠ []) : ([], satN (val 0 (ds ++ ps)), ds.length, ps.length, p) = body l := by
  unfold body; rw [trim_other (h.begins h1), scan_of_shape h]
theorem body_minus {l ds ps : List UInt8} {p : Bool} (h : Shape l ds ps p) : ([], satN (val 0 (ds ++ ps)), ds.length, ps.length, p) = body (45 :: l) := by
  unfold body; rw [trim_minus, scan_of_shape h]
theorem Shape.val0 {l ds ps : List UInt8} {p : Bool} (h : Shape l ds ps p) : 0 ≤ val 0 (ds ++ ps) := val_nonneg _ (by omega) (h.1.append h.2.1)
theorem parse_shape {l ds ps : List UInt8} {p : Bool} (h : Shape l ds ps p) (h1 : ds ≠ []) (h2 : p = true → ps ≠ []) :
    parseN l = satN (val 0 (ds ++ ps) * 10 ^ (3 - ps.length)) ∧ parseE l = 0 := by
  have hg := parse_good (body_shape h h1) (by cases ds with | nil => exact absurd rfl h1 | cons _ _ => simp) (fun e => by
    have := h2 e
    cases ps with | nil => exact absurd rfl this | cons _ _ => simp)
  rw [h.begins h1, padN_satN _ h.val0] at hg
  exact ⟨hg.2, hg.1⟩
theorem parse_minus {l ds ps : List UInt8} {p : Bool} (h : Shape l ds ps p) (h1 : ds ≠ []) (h2 : p = true → ps ≠ []) :
    parseN (45 :: l) = -satN (val 0 (ds ++ ps) * 10 ^ (3 - ps.length)) ∧ parseE (45 :: l) = 0 := by
  have hg := parse_good (body_minus h) (by cases ds with | nil => exact absurd rfl h1 | cons _ _ => simp) (fun e => by
    have := h2 e
    cases ps with | nil => exact absurd rfl this | cons _ _ => simp)
  rw [has_cons, padN_satN _ h.val0] at hg
  exact ⟨hg.2, hg.1⟩

theorem digit_nat {n : Nat} (h : n < 10) : (UInt8.ofNat (48 + n)).toNat = 48 + n := by
  rw [UInt8.toNat_ofNat']; omega
theorem dec_step (u : Nat) (h : ¬ u < 10) : Lib.decDigits u = Lib.decDigits (u / 10) ++ [UInt8.ofNat (48 + u % 10)] := by rw [Lib.decDigits, dif_neg h]
theorem dec_dig (u : Nat) : Dig (Lib.decDigits u) := by
  induction u using Nat.strongRecOn with
  | _ u ih =>
    by_cases h : u < 10
    · rw [Lib.decDigits_one h]
      exact Dig.cons (by rw [digit_nat h]; omega) Dig.nil
    · rw [dec_step u h]
      exact (ih (u / 10) (by omega)).append (Dig.cons (by rw [digit_nat (by omega)]; omega) Dig.nil)
theorem dec_val (u : Nat) : val 0 (Lib.decDigits u) = u := by
  induction u using Nat.strongRecOn with
  | _ u ih =>
    by_cases h : u < 10
    · rw [Lib.decDigits_one h, val_cons, digit_nat h]
      simp [val]; omega
    · rw [dec_step u h, val_append, ih (u / 10) (by omega), val_cons, digit_nat (by omega)]
      simp [val]; omega
theorem dec_ne (u : Nat) : Lib.decDigits u ≠ [] := by
  intro e
  have := dec_len_pos u
  rw [e] at this
  simp at this

/-- What a cut of the noughts at the end leaves. -/
theorem trim_split (l : List UInt8) : ∃ k, l = Lib.trimRightB l 48 ++ List.replicate k 48 := by
  have h : ∀ m : List UInt8, ∃ k, m = List.replicate k 48 ++ m.dropWhile (· == 48) := by
    intro m
    induction m with
    | nil => exact ⟨0, rfl⟩
    | cons c t ih =>
      by_cases hc : c = 48
      · obtain ⟨k, hk⟩ := ih
        refine ⟨k + 1, ?_⟩
        rw [List.dropWhile_cons_of_pos (by simp [hc]), List.replicate_succ, List.cons_append, ← hk, hc]
      · exact ⟨0, by rw [List.dropWhile_cons_of_neg (by simp [hc])]; rfl⟩
  obtain ⟨k, hk⟩ := h l.reverse
  refine ⟨k, ?_⟩
  have := congrArg List.reverse hk
  rw [List.reverse_reverse, List.reverse_append, List.reverse_replicate] at this
  exact this
theorem trim_last (l : List UInt8) (h : Lib.trimRightB l 48 ≠ []) : ∃ t c, Lib.trimRightB l 48 = t ++ [c] ∧ c ≠ 48 := by
  unfold Lib.trimRightB at *
  cases hd : l.reverse.dropWhile (· == 48) with
  | nil => rw [hd] at h; exact absurd rfl h
  | cons c t =>
    refine ⟨t.reverse, c, by simp, ?_⟩
    have := List.head_dropWhile_not (fun x : UInt8 => x == 48) (show l.reverse.dropWhile (fun x : UInt8 => x == 48) ≠ [] by rw [hd]; simp)
    simp only [hd, List.head_cons] at this
    simpa using this
theorem val_noughts (a : Int) (k : Nat) : val a (List.replicate k 48) = a * 10 ^ k := by
  induction k generalizing a with
  | zero => simp [val]
  | succ k ih =>
    rw [List.replicate_succ, val_cons, ih, Int.pow_succ]
    rw [show ((48 : UInt8).toNat : Int) - 48 = 0 from rfl, Int.add_zero, Int.mul_assoc, Int.mul_comm 10]

theorem part_len {r : Nat} (h : r < 1000) : (Lib.decDigits (1000 + r)).length = 4 := by
  rw [Lib.decDigits_length, Lib.nDigits_unique 3 (1000 + r) (by omega) (by omega)]
theorem part_val {r : Nat} (h : r < 1000) : Dig (Lib.decDigits (1000 + r)).tail ∧ (Lib.decDigits (1000 + r)).tail.length = 3 ∧ val 0 (Lib.decDigits (1000 + r)).tail = r := by
  have hl := part_len h
  have hd := dec_dig (1000 + r)
  have hv := dec_val (1000 + r)
  cases he : Lib.decDigits (1000 + r) with
  | nil => rw [he] at hl; simp at hl
  | cons c t =>
    rw [he] at hl hd hv
    have h3 : t.length = 3 := by simpa using hl
    have lt := val_lt t hd.tail
    have lo := val_nonneg t (a := 0) (by omega) hd.tail
    rw [val_cons, val_shift t, h3] at hv
    rw [h3] at lt
    have hc := hd.head
    refine ⟨hd.tail, h3, ?_⟩
    show val 0 t = r
    omega

theorem val_split (ds ps : List UInt8) : val 0 (ds ++ ps) = val 0 ds * 10 ^ ps.length + val 0 ps := by rw [val_append, val_shift]
theorem pow_split {k n : Nat} (h : k ≤ n) : (10 : Int) ^ k * 10 ^ (n - k) = 10 ^ n := by rw [← Int.pow_add]; congr 1; omega

theorem digits_shape {m : Int} (h0 : 0 ≤ m) : ∃ ps p, Shape (digitsOf m) (Lib.decDigits (m / 1000).toNat) ps p ∧ (p = true → ps ≠ []) ∧ val 0 (Lib.decDigits (m / 1000).toNat ++ ps) * 10 ^ (3 - ps.length) = m := by
  have hu := dec_val (m / 1000).toNat
  by_cases hp : 0 < m % 1000
  · obtain ⟨d1, d2, d3⟩ := part_val (r := (m % 1000).toNat) (by omega)
    have er : (1000 + m % 1000).toNat = 1000 + (m % 1000).toNat := by omega
    obtain ⟨k, hk⟩ := trim_split (Lib.decDigits (1000 + (m % 1000).toNat)).tail
    generalize ht : Lib.trimRightB (Lib.decDigits (1000 + (m % 1000).toNat)).tail 48 = t at hk
    have hl : t.length + k = 3 := by
      have := congrArg List.length hk
      rw [d2, List.length_append, List.length_replicate] at this
      omega
    have hne : t ≠ [] := by
      rintro rfl
      rw [hk, List.nil_append, val_noughts] at d3
      omega
    have hv : val 0 (Lib.decDigits (m / 1000).toNat ++ t) * 10 ^ k = m := by
      have e1 : val 0 (Lib.decDigits (m / 1000).toNat ++ (Lib.decDigits (1000 + (m % 1000).toNat)).tail) = m := by
        rw [val_split, hu, d2, d3]; omega
      rw [hk, ← List.append_assoc, val_append, val_noughts] at e1
      exact e1
    refine ⟨t, true, ⟨dec_dig _, ?_, by omega, ?_, fun h => by cases h⟩, fun _ => hne, ?_⟩
    · rw [hk] at d1; exact d1.left
    · unfold digitsOf; rw [if_pos hp, er, ht]; rfl
    · rw [show 3 - t.length = k by omega]; exact hv
  · refine ⟨[], false, ⟨dec_dig _, Dig.nil, by simp, ?_, fun _ => rfl⟩, (fun h => by cases h), ?_⟩
    · unfold digitsOf; rw [if_neg hp, List.append_nil]; rfl
    · rw [List.append_nil, hu]; simp; omega

theorem parse_digits {m : Int} (h0 : 0 ≤ m) (h1 : m ≤ 4611686018427387903) : parseN (digitsOf m) = m ∧ parseE (digitsOf m) = 0 := by
  obtain ⟨ps, p, h, hn, hv⟩ := digits_shape h0
  have := parse_shape h (dec_ne _) hn
  rw [hv, satN_in h1] at this
  exact this
theorem parse_minus_digits {m : Int} (h0 : 0 ≤ m) (h1 : m ≤ 4611686018427387903) : parseN (45 :: digitsOf m) = -m ∧ parseE (45 :: digitsOf m) = 0 := by
  obtain ⟨ps, p, h, hn, hv⟩ := digits_shape h0
  have := parse_minus h (dec_ne _) hn
  rw [hv, satN_in h1] at this
  exact this
theorem parse_print (x : Int) : parseN (printL x) = sat x ∧ parseE (printL x) = 0 := by
  have h1 := sat_lo x
  have h2 := sat_hi x
  unfold printL
  by_cases h : sat x < 0
  · rw [if_pos h]
    have := parse_minus_digits (m := -sat x) (by omega) (by omega)
    rw [Int.neg_neg] at this
    exact this
  · rw [if_neg h]
    exact parse_digits (by omega) h2
theorem digits_len {m : Int} (h0 : 0 ≤ m) (h1 : m ≤ 4611686018427387903) : (digitsOf m).length ≤ 24 := by
  unfold digitsOf
  have d1 := dec_len (m / 1000).toNat (by omega)
  by_cases hp : 0 < m % 1000
  · rw [if_pos hp, List.length_append, List.length_cons]
    have d2 := trim_len (Lib.decDigits (1000 + m % 1000).toNat).tail 48
    have d3 := part_len (r := (m % 1000).toNat) (by omega)
    rw [show (1000 + m % 1000).toNat = 1000 + (m % 1000).toNat by omega] at *
    rw [List.length_tail] at d2
    omega
  · rw [if_neg hp, List.append_nil]; omega
theorem print_len (x : Int) : (printL x).length ≤ 25 := by
  have h1 := sat_lo x
  have h2 := sat_hi x
  unfold printL
  by_cases h : sat x < 0
  · rw [if_pos h, List.length_cons]
    have := digits_len (m := -sat x) (by omega) (by omega)
    omega
  · rw [if_neg h]
    have := digits_len (m := sat x) (by omega) h2
    omega
end Go.Proofs.YtdiflalllajagaaDoor
