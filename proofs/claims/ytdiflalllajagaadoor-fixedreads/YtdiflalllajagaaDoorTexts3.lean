/- Plain mathematics of a number's text, its third part: what is read is within the bounds, and the text that is written of it is no longer than the one that was read, unless the bound was met. No program in it. -/
import Derived.Test.YtdiflalllajagaaDoorTexts2
namespace Go.Proofs.YtdiflalllajagaaDoor

theorem parse_no {l : List UInt8} (h : parseE l ≠ 0) : parseN l = 0 ∧ parseE l = 10 := by
  cases hb : Bad (body l)
  · exfalso; apply h; unfold parseE; rw [hb]; rfl
  · exact parse_bad hb

/-- A text that is read has the shape of a number's text. -/
theorem parse_inv {l : List UInt8} (h : parseE l = 0) :
    ∃ l' ds ps p, Shape l' ds ps p ∧ ds ≠ [] ∧ (p = true → ps ≠ []) ∧ ((l = l' ∧ parseN l = satN (val 0 (ds ++ ps) * 10 ^ (3 - ps.length))) ∨ (l = 45 :: l' ∧ parseN l = -satN (val 0 (ds ++ ps) * 10 ^ (3 - ps.length)))) := by
  have hb : Bad (body l) = false := by
    cases hb : Bad (body l)
    · rfl
    · have := (parse_bad hb).2; omega
  have hsc : ∃ r, scan (Lib.trimPrefix l [45]) 0 0 0 false = ([], r) := by
    unfold Bad at hb
    cases hs : body l with
    | mk t r =>
      rw [hs] at hb
      cases t with
      | nil => exact ⟨r, hs⟩
      | cons c t => simp at hb
  obtain ⟨r, hr⟩ := hsc
  obtain ⟨ds, ps, p, hsh⟩ := scan_shape _ _ _ r hr
  have hbody : body l = ([], satN (val 0 (ds ++ ps)), ds.length, ps.length, p) := scan_of_shape hsh
  rw [hbody] at hb
  have hd : ds ≠ [] := by
    rintro rfl
    simp [Bad] at hb
  have hp : p = true → ps ≠ [] := by
    rintro rfl rfl
    simp [Bad] at hb
  refine ⟨Lib.trimPrefix l [45], ds, ps, p, hsh, hd, hp, ?_⟩
  cases hm : Lib.hasPrefix l [45]
  · left
    have e := trim_other hm
    exact ⟨e.symm, by have := (parse_shape hsh hd hp).1; rw [e] at this; exact this⟩
  · right
    cases l with
    | nil => simp [Lib.hasPrefix, List.isPrefixOf] at hm
    | cons c t =>
      rw [has_cons] at hm
      have hc : c = 45 := (beq_iff_eq.1 hm).symm
      subst hc
      rw [trim_minus] at hsh ⊢
      exact ⟨rfl, (parse_minus hsh hd hp).1⟩

theorem nDigits_le : ∀ (k u : Nat), u < 10 ^ (k + 1) → Lib.nDigits u ≤ k + 1
  | 0, u, h => by rw [Lib.nDigits_small (by omega)]; omega
  | k + 1, u, h => by
    by_cases hu : u < 10
    · rw [Lib.nDigits_small hu]; omega
    · rw [Lib.nDigits_big hu]
      have := nDigits_le k (u / 10) (by rw [Nat.pow_succ] at h; omega)
      omega
theorem val_inj : ∀ (a b : List UInt8), Dig a → Dig b → a.length = b.length → val 0 a = val 0 b → a = b
  | [], [], _, _, _, _ => rfl
  | [], _ :: _, _, _, h, _ => by simp at h
  | _ :: _, [], _, _, h, _ => by simp at h
  | c :: a, d :: b, ha, hb, hl, hv => by
    have hl' : a.length = b.length := by simpa using hl
    rw [val_cons, val_cons, val_shift a, val_shift b, hl'] at hv
    have la := val_lt a ha.tail
    have lb := val_lt b hb.tail
    have na := val_nonneg a (a := 0) (by omega) ha.tail
    have nb := val_nonneg b (a := 0) (by omega) hb.tail
    rw [hl'] at la
    have hc := ha.head
    have hd := hb.head
    have hcd : c.toNat = d.toNat := by
      generalize (10 : Int) ^ b.length = P at *
      rcases Nat.lt_trichotomy c.toNat d.toNat with h | h | h
      · exfalso
        have := Int.mul_le_mul_of_nonneg_right (show (0 * 10 + ((c.toNat : Int) - 48)) + 1 ≤ 0 * 10 + ((d.toNat : Int) - 48) by omega) (show 0 ≤ P by omega)
        rw [Int.add_mul] at this
        omega
      · exact h
      · exfalso
        have := Int.mul_le_mul_of_nonneg_right (show (0 * 10 + ((d.toNat : Int) - 48)) + 1 ≤ 0 * 10 + ((c.toNat : Int) - 48) by omega) (show 0 ≤ P by omega)
        rw [Int.add_mul] at this
        omega
    rw [UInt8.toNat_inj.1 hcd, val_inj a b ha.tail hb.tail hl' (by rw [hcd] at hv; omega)]
theorem noughts_dig (k : Nat) : Dig (List.replicate k 48) := fun c hc => by
  rw [(List.mem_replicate.1 hc).2]; decide
theorem trim_noughts (a : List UInt8) (k : Nat) : (Lib.trimRightB (a ++ List.replicate k 48) 48).length ≤ a.length := by
  have : Lib.trimRightB (a ++ List.replicate k 48) 48 = Lib.trimRightB a 48 := by
    unfold Lib.trimRightB
    rw [List.reverse_append, List.reverse_replicate]
    congr 1
    induction k with
    | zero => rfl
    | succ k ih => rw [List.replicate_succ, List.cons_append, List.dropWhile_cons_of_pos (by simp)]; exact ih
  rw [this]
  exact trim_len a 48

theorem digits_short {l ds ps : List UInt8} {p : Bool} (h : Shape l ds ps p) (h1 : ds ≠ []) (h2 : p = true → ps ≠ []) : (digitsOf (val 0 (ds ++ ps) * 10 ^ (3 - ps.length))).length ≤ l.length := by
  obtain ⟨hd, hp, h3, hl, h0⟩ := h
  have hV : val 0 (ds ++ ps) * 10 ^ (3 - ps.length) = val 0 ds * 1000 + val 0 (ps ++ List.replicate (3 - ps.length) 48) := by
    rw [val_split, val_append 0 ps, val_noughts, Int.add_mul, Int.mul_assoc, pow_split h3]
    rfl
  have hpd : Dig (ps ++ List.replicate (3 - ps.length) 48) := hp.append (noughts_dig _)
  have hpl : (ps ++ List.replicate (3 - ps.length) 48).length = 3 := by simp; omega
  have lt := val_lt _ hpd
  rw [hpl] at lt
  have nn := val_nonneg _ (a := 0) (by omega) hpd
  have nd := val_nonneg ds (a := 0) (by omega) hd
  rw [hV]
  generalize hr : val 0 (ps ++ List.replicate (3 - ps.length) 48) = r at *
  have ltd := val_lt ds hd
  have hu : (Lib.decDigits (val 0 ds).toNat).length ≤ ds.length := by
    rw [Lib.decDigits_length]
    cases hk : ds.length with
    | zero => exact absurd (List.length_eq_zero_iff.1 hk) h1
    | succ k =>
      apply nDigits_le k
      rw [hk] at ltd
      have : ((10 ^ (k + 1) : Nat) : Int) = (10 : Int) ^ (k + 1) := by simp
      omega
  have e1 : (val 0 ds * 1000 + r) / 1000 = val 0 ds := by omega
  have e2 : (val 0 ds * 1000 + r) % 1000 = r := by omega
  unfold digitsOf
  rw [e1, e2]
  by_cases hr0 : 0 < r
  · have hpt : p = true := by
      cases p
      · have := h0 rfl
        subst this
        rw [List.nil_append, val_noughts] at hr
        omega
      · rfl
    subst hpt
    rw [if_pos hr0, hl]
    simp only [if_true, List.length_append, List.length_cons]
    obtain ⟨d1, d2, d3⟩ := part_val (r := r.toNat) (by omega)
    have heq := val_inj _ _ d1 hpd (by rw [d2, hpl]) (by rw [d3, hr]; omega)
    rw [show (1000 + r).toNat = 1000 + r.toNat by omega, heq]
    have := trim_noughts ps (3 - ps.length)
    omega
  · rw [if_neg hr0, List.append_nil, hl]
    cases p <;> simp <;> omega

theorem back_len {l : List UInt8} (h : parseE l = 0) : -4611686018427387903 ≤ parseN l ∧ parseN l ≤ 4611686018427387903 ∧ ((printL (parseN l)).length ≤ l.length ∨ parseN l = 4611686018427387903 ∨ parseN l = -4611686018427387903) := by
  obtain ⟨l', ds, ps, p, hsh, hd, hp, hor⟩ := parse_inv h
  have hV : 0 ≤ val 0 (ds ++ ps) * 10 ^ (3 - ps.length) := Int.mul_nonneg hsh.val0 (Int.le_of_lt (Int.pow_pos (by decide)))
  have hs := digits_short hsh hd hp
  have b1 := satN_hi (val 0 (ds ++ ps) * 10 ^ (3 - ps.length))
  have b2 := satN_lo hV
  have b3 := @satN_ne (val 0 (ds ++ ps) * 10 ^ (3 - ps.length))
  generalize val 0 (ds ++ ps) * 10 ^ (3 - ps.length) = V at *
  by_cases hM : satN V = 4611686018427387903
  · rcases hor with ⟨_, e⟩ | ⟨_, e⟩ <;> rw [e, hM] <;> refine ⟨by omega, by omega, by omega⟩
  · have e0 := b3 hM
    rw [e0] at b1 b2 hor
    rcases hor with ⟨rfl, e⟩ | ⟨rfl, e⟩
    · rw [e]
      refine ⟨by omega, by omega, .inl ?_⟩
      unfold printL
      rw [← sat_in (by omega) (by omega), if_neg (by omega)]
      exact hs
    · rw [e]
      refine ⟨by omega, by omega, .inl ?_⟩
      unfold printL
      rw [← sat_in (by omega) (by omega), Int.neg_neg, List.length_cons]
      split
      · rw [List.length_cons]; omega
      · have : V = 0 := by omega
        subst this
        simp only [Int.neg_zero]
        omega
end Go.Proofs.YtdiflalllajagaaDoor
