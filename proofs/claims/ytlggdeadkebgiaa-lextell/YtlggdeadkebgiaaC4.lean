/- Contracts: number, sign, first. -/
import Derived.Test.YtlggdeadkebgiaaC3
import Derived.Test.YtlggdeadkebgiaaShelf
import Derived.Lib.IndexLaws
namespace Go.Proofs.Ytlggdeadkebgiaa
open Go.RowKit Go.Shelf

/-- whether a byte is among some. -/
theorem index_has : ∀ (l : List UInt8) (c : UInt8), (0 ≤ Lib.indexByte l c) ↔ l.contains c = true
  | [], c => by simp [Lib.indexByte]
  | b :: l, c => by
    have ih := index_has l c
    have hg := Lib.indexByte_ge l c
    rw [Lib.indexByte]
    by_cases h : b = c
    · subst h; simp
    · have hne : (b == c) = false := by simpa using h
      have hcb : ¬ c = b := fun e => h e.symm
      rw [if_neg (by rw [hne]; simp), List.contains_cons, show (c == b) = false by simpa using hcb, Bool.false_or, ← ih]
      split
      · rename_i h1
        have : Lib.indexByte l c = -1 := by simpa using h1
        omega
      · rename_i h1
        have : Lib.indexByte l c ≠ -1 := by simpa using h1
        omega
theorem nat_byte (c : UInt8) : ((c.toNat : Int)).toNat.toUInt8 = c := by
  simp
theorem idx_any (l : Tx) (c : UInt8) (w : World) : Calls Try.prog 40 #[.string ⟨l.toArray⟩, .int .u8 (c.toNat : Int)] w fun e w' => e = .returned (.int .i64 (Lib.indexByte l c)) ∧ w' = w := by
  have := Try.strings_IndexByte ⟨l.toArray⟩ (c.toNat : Int) w
  rw [nat_byte] at this
  exact this
theorem hasP_cons {c : UInt8} {t : Tx} {d : UInt8} : Lib.hasPrefix (c :: t) [d] = (d == c) := by
  unfold Lib.hasPrefix
  rw [List.isPrefixOf, List.isPrefixOf, Bool.and_true]
theorem sgn_c {c : UInt8} {t : Tx} : sgn (c :: t) = if Lib.hasPrefix t [61] = true ∧ withE c = true then 2 else if alone c then 1 else 0 := by
  cases t with
  | nil => simp [sgn, Lib.hasPrefix]
  | cons d t =>
    rw [sgn, hasP_cons]
    have : ((61 : UInt8) == d) = true ↔ d = 61 := by rw [beq_iff_eq]; exact ⟨Eq.symm, Eq.symm⟩
    simp only [this]
set_option maxHeartbeats 1000000 in
theorem sign_any (s : Tx) (c : UInt8) (t : Tx) (hst : Hid (s = c :: t)) (hs : s.length ≤ 9223372036854775806) (w : World) : Calls Try.prog 34 #[str s] w fun e w' => e = .returned (.int .i64 (sgn (c :: t) : Int)) ∧ w' = w := by
  have hpre := hid (Try.strings_HasPrefix ⟨t.toArray⟩ ⟨#[61]⟩)
  have hw := hid (idx_any [60, 62, 61, 33, 94] c)
  have ha := hid (idx_any [123, 125, 40, 41, 91, 93, 44, 58, 59, 61, 60, 62, 45] c)
  have iw := index_has [60, 62, 61, 33, 94] c
  have ia := index_has [123, 125, 40, 41, 91, 93, 44, 58, 59, 61, 60, 62, 45] c
  have hsg := hid (sgn_c (c := c) (t := t))
  change _ ↔ withE c = true at iw
  change _ ↔ alone c = true at ia
  change Hid (∀ w, Calls _ _ _ _ fun e w' => e = .returned (.bool (Lib.hasPrefix t [61])) ∧ w' = w) at hpre
  generalize Lib.indexByte [60, 62, 61, 33, 94] c = xw at *
  generalize Lib.indexByte [123, 125, 40, 41, 91, 93, 44, 58, 59, 61, 60, 62, 45] c = xa at *
  generalize sgn (c :: t) = n at *
  generalize Lib.hasPrefix t [61] = p at *
  have hsl : 0 < s.length := by rw [hst.out]; simp
  have e2 : (⟨s.toArray⟩ : ByteArray).extract 1 s.length = ⟨t.toArray⟩ := by rw [ext_from s 1 _ rfl, hst.out]; rfl
  have hget := get_at hsl
  rw [show s.getD 0 0 = c by rw [hst.out]; rfl] at hget
  unfold str
  have c1 : (1 : Int) ≤ (s.length : Int) := by omega
  have c2 : (0 : Int) < (s.length : Int) := by omega
  have tw : Hid (p = true → withE c = true → n = 2) := fun h1 h2 => by
    have := hsg.out
    rw [h1, h2] at this
    simpa using this
  have tn : Hid ((p = false ∨ withE c = false) → n = if alone c then 1 else 0) := fun h1 => by
    have := hsg.out
    rcases h1 with h1 | h1 <;> rw [h1] at this <;> simpa using this
  clear hsg hst
  cases p
  · have hn := tn.out (.inl rfl)
    clear tn tw iw
    by_cases h2 : 0 ≤ xa
    · rw [ia.1 h2] at hn
      have e : Hid ((1 : Int) = (n : Int)) := by unfold Hid; rw [hn]; rfl
      clear hn ia
      go_enter Try.func34, Try.ntmps34
      go_wp2_with (first | (go_at_call 39; refine (hpre.out _).mono ?_; rintro e w' ⟨rfl, hw'⟩; have hw2 := hw'.symm; subst hw2) | (go_at_call 40; refine (ha.out _).mono ?_; rintro e w' ⟨rfl, hw'⟩; have hw2 := hw'.symm; subst hw2))
      go_ret
      exact ⟨ret_int e.out, rfl⟩
    · have hf : alone c = false := by simpa using mt ia.2 h2
      rw [hf] at hn
      have e : Hid ((0 : Int) = (n : Int)) := by unfold Hid; rw [hn]; rfl
      clear hn ia hf
      go_enter Try.func34, Try.ntmps34
      go_wp2_with (first | (go_at_call 39; refine (hpre.out _).mono ?_; rintro e w' ⟨rfl, hw'⟩; have hw2 := hw'.symm; subst hw2) | (go_at_call 40; refine (ha.out _).mono ?_; rintro e w' ⟨rfl, hw'⟩; have hw2 := hw'.symm; subst hw2))
      go_ret
      exact ⟨ret_int e.out, rfl⟩
  · by_cases h3 : 0 ≤ xw
    · have hn := tw.out rfl (iw.1 h3)
      have e : Hid ((2 : Int) = (n : Int)) := by unfold Hid; rw [hn]; rfl
      clear hn ia iw tn tw
      go_enter Try.func34, Try.ntmps34
      go_wp2_with (first | (go_at_call 39; refine (hpre.out _).mono ?_; rintro e w' ⟨rfl, hw'⟩; have hw2 := hw'.symm; subst hw2) | (go_at_call 40; refine (hw.out _).mono ?_; rintro e w' ⟨rfl, hw'⟩; have hw2 := hw'.symm; subst hw2))
      go_ret
      exact ⟨ret_int e.out, rfl⟩
    · have hn := tn.out (.inr (by simpa using mt iw.2 h3))
      clear tn tw iw
      by_cases h2 : 0 ≤ xa
      · rw [ia.1 h2] at hn
        have e : Hid ((1 : Int) = (n : Int)) := by unfold Hid; rw [hn]; rfl
        clear hn ia
        go_enter Try.func34, Try.ntmps34
        go_wp2_with (first | (go_at_call 39; refine (hpre.out _).mono ?_; rintro e w' ⟨rfl, hw'⟩; have hw2 := hw'.symm; subst hw2) | (go_at_call 40; first | (refine (hw.out _).mono ?_; clear hw; rintro e w' ⟨rfl, hw'⟩; have hw2 := hw'.symm; subst hw2) | (refine (ha.out _).mono ?_; rintro e w' ⟨rfl, hw'⟩; have hw2 := hw'.symm; subst hw2)))
        go_ret
        exact ⟨ret_int e.out, rfl⟩
      · have hf : alone c = false := by simpa using mt ia.2 h2
        rw [hf] at hn
        have e : Hid ((0 : Int) = (n : Int)) := by unfold Hid; rw [hn]; rfl
        clear hn ia hf
        go_enter Try.func34, Try.ntmps34
        go_wp2_with (first | (go_at_call 39; refine (hpre.out _).mono ?_; rintro e w' ⟨rfl, hw'⟩; have hw2 := hw'.symm; subst hw2) | (go_at_call 40; first | (refine (hw.out _).mono ?_; clear hw; rintro e w' ⟨rfl, hw'⟩; have hw2 := hw'.symm; subst hw2) | (refine (ha.out _).mono ?_; rintro e w' ⟨rfl, hw'⟩; have hw2 := hw'.symm; subst hw2)))
        go_ret
        exact ⟨ret_int e.out, rfl⟩
theorem fract_c {q : Tx} : fract q = if Lib.hasPrefix q [46] = true ∧ 0 < cnt dig (Lib.trimPrefix q [46]) then cnt dig (Lib.trimPrefix q [46]) + 1 else 0 := by
  cases q with
  | nil => rfl
  | cons c q =>
    have ht : (c :: q : Tx) = c :: q := rfl
    show (if c = 46 then (if cnt dig q = 0 then 0 else cnt dig q + 1) else 0) = _
    rw [hasP_cons]
    by_cases h : c = 46
    · subst h
      have : Lib.trimPrefix (46 :: q) [46] = q := by simp [Lib.trimPrefix, Lib.hasPrefix]
      rw [this, if_pos rfl]
      by_cases h0 : cnt dig q = 0
      · simp [h0]
      · have : 0 < cnt dig q := by omega
        simp [h0, this]
    · have : ((46 : UInt8) == c) = false := by simpa using fun e : (46 : UInt8) = c => h e.symm
      rw [if_neg h, this]
      simp
theorem trim_len (q p : Tx) : (Lib.trimPrefix q p).length ≤ q.length := by
  unfold Lib.trimPrefix
  split <;> simp
set_option maxHeartbeats 1000000 in
theorem number_any (s : Tx) (hs : s.length ≤ 35184372088832) (w : World) : Calls Try.prog 32 #[str s] w fun e w' => e = .returned (.int .i64 (numL s : Int)) ∧ w' = w := by
  have h1 := hid (count_digit s (by omega))
  have hle := cnt_le dig s
  have hnum : Hid (numL s = cnt dig s + fract (s.drop (cnt dig s))) := rfl
  generalize cnt dig s = n at *
  have e2 := ext_from s n s.length rfl
  have hql : (s.drop n).length ≤ 35184372088832 := by simp; omega
  generalize s.drop n = q at *
  have hfr := hid (fract_c (q := q))
  have hpre := hid (Try.strings_CutPrefix ⟨q.toArray⟩ ⟨#[46]⟩)
  change Hid (∀ w, Calls _ _ _ _ fun e w' => e = .returned (.tuple #[.string ⟨(Lib.trimPrefix q [46]).toArray⟩, .bool (Lib.hasPrefix q [46])]) ∧ w' = w) at hpre
  have htl := trim_len q [46]
  generalize Lib.trimPrefix q [46] = r at *
  have h3 := hid (count_digit r (by omega))
  have hrl := cnt_le dig r
  generalize cnt dig r = m at *
  generalize Lib.hasPrefix q [46] = p at *
  generalize fract q = f at *
  generalize numL s = x at *
  have c3 : (0 : Int) ≤ (n : Int) := by omega
  have c4 : (n : Int) ≤ (s.length : Int) := by omega
  have c5 : IntKind.i64.wrap (1 + (m : Int)) = 1 + (m : Int) := by rw [IntKind.wrap_i64]; omega
  have c6 : IntKind.i64.wrap ((n : Int) + (1 + (m : Int))) = (n : Int) + (1 + (m : Int)) := by rw [IntKind.wrap_i64]; omega
  unfold str at *
  cases p
  · have e : Hid ((n : Int) = (x : Int)) := by
      unfold Hid
      rw [hnum.out, hfr.out]
      simp
    clear hnum hfr
    go_enter Try.func32, Try.ntmps32
    go_wp2_with (first | (go_at_call 38; refine (hpre.out _).mono ?_; rintro e w' ⟨rfl, hw'⟩; have hw2 := hw'.symm; subst hw2) | (go_at_call 27; first | (refine (h1.out _).mono ?_; clear h1; rintro e w' ⟨rfl, hw'⟩; have hw2 := hw'.symm; subst hw2) | (refine (h3.out _).mono ?_; rintro e w' ⟨rfl, hw'⟩; have hw2 := hw'.symm; subst hw2)))
    go_ret
    exact ⟨ret_int e.out, rfl⟩
  · by_cases h0 : 0 < m
    · have h0' : (0 : Int) < (m : Int) := by omega
      have e : Hid ((n : Int) + (1 + (m : Int)) = (x : Int)) := by
        unfold Hid
        rw [hnum.out, hfr.out, if_pos ⟨rfl, h0⟩]
        omega
      clear hnum hfr
      go_enter Try.func32, Try.ntmps32
      go_wp2_with (first | (go_at_call 38; refine (hpre.out _).mono ?_; rintro e w' ⟨rfl, hw'⟩; have hw2 := hw'.symm; subst hw2) | (go_at_call 27; first | (refine (h1.out _).mono ?_; clear h1; rintro e w' ⟨rfl, hw'⟩; have hw2 := hw'.symm; subst hw2) | (refine (h3.out _).mono ?_; rintro e w' ⟨rfl, hw'⟩; have hw2 := hw'.symm; subst hw2)))
      go_ret
      exact ⟨ret_int e.out, rfl⟩
    · have h0' : ¬ (0 : Int) < (m : Int) := by omega
      have e : Hid ((n : Int) = (x : Int)) := by
        unfold Hid
        rw [hnum.out, hfr.out, if_neg (fun h => h0 h.2)]
        omega
      clear hnum hfr
      go_enter Try.func32, Try.ntmps32
      go_wp2_with (first | (go_at_call 38; refine (hpre.out _).mono ?_; rintro e w' ⟨rfl, hw'⟩; have hw2 := hw'.symm; subst hw2) | (go_at_call 27; first | (refine (h1.out _).mono ?_; clear h1; rintro e w' ⟨rfl, hw'⟩; have hw2 := hw'.symm; subst hw2) | (refine (h3.out _).mono ?_; rintro e w' ⟨rfl, hw'⟩; have hw2 := hw'.symm; subst hw2)))
      go_ret
      exact ⟨ret_int e.out, rfl⟩
end Go.Proofs.Ytlggdeadkebgiaa
