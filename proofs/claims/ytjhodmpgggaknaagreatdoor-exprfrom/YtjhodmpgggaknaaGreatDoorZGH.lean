/- Joined: C4 C5. -/
import Derived.Test.YtjhodmpgggaknaaGreatDoorZGG
import Derived.Test.YtjhodmpgggaknaaGreatDoorZShelf
import Derived.Lib.IndexLaws
/- Contracts: number, sign, first. -/
namespace Go.Proofs.YtjhodmpgggaknaaGreatDoor
open Go.RowKit Go.Shelf

/-- whether a byte is among some. -/
theorem index_has : ∀ (l : List UInt8) (c : UInt8), (0 ≤ Lib.indexByte l c) ↔ l.contains c = true
  | [], c => by simp [Lib.indexByte]
  | b :: l, c => by
    have ih := index_has l c
    have hg := Lib.indexByte_ge l c
    rw [Lib.indexByte]
    by_cases h : b = c
    · subst h; simp
    · have hne : (b == c) = false := by simpa using h
      have hcb : ¬ c = b := fun e => h e.symm
      rw [if_neg (by rw [hne]; simp), List.contains_cons, show (c == b) = false by simpa using hcb, Bool.false_or, ← ih]
      split
      · rename_i h1
        have : Lib.indexByte l c = -1 := by simpa using h1
        omega
      · rename_i h1
        have : Lib.indexByte l c ≠ -1 := by simpa using h1
        omega
theorem nat_byte (c : UInt8) : ((c.toNat : Int)).toNat.toUInt8 = c := by
  simp
theorem idx_any (l : Tx) (c : UInt8) (w : World) : Calls Tryz.prog 105 #[.string ⟨l.toArray⟩, .int .u8 (c.toNat : Int)] w fun e w' => e = .returned (.int .i64 (Lib.indexByte l c)) ∧ w' = w := by
  have := Tryz.strings_IndexByte ⟨l.toArray⟩ (c.toNat : Int) w
  rw [nat_byte] at this
  exact this
theorem hasP_cons {c : UInt8} {t : Tx} {d : UInt8} : Lib.hasPrefix (c :: t) [d] = (d == c) := by
  unfold Lib.hasPrefix
  rw [List.isPrefixOf, List.isPrefixOf, Bool.and_true]
theorem sgn_c {c : UInt8} {t : Tx} : sgn (c :: t) = if Lib.hasPrefix t [61] = true ∧ withE c = true then 2 else if alone c then 1 else 0 := by
  cases t with
  | nil => simp [sgn, Lib.hasPrefix]
  | cons d t =>
    rw [sgn, hasP_cons]
    have : ((61 : UInt8) == d) = true ↔ d = 61 := by rw [beq_iff_eq]; exact ⟨Eq.symm, Eq.symm⟩
    simp only [this]
set_option maxHeartbeats 1000000 in
theorem sign_any (s : Tx) (c : UInt8) (t : Tx) (hst : Hid (s = c :: t)) (hs : s.length ≤ 9223372036854775806) (w : World) : Calls Tryz.prog 81 #[str s] w fun e w' => e = .returned (.int .i64 (sgn (c :: t) : Int)) ∧ w' = w := by
  have hpre := hid (Tryz.strings_HasPrefix ⟨t.toArray⟩ ⟨#[61]⟩)
  have hw := hid (idx_any [60, 62, 61, 33, 94] c)
  have ha := hid (idx_any [123, 125, 40, 41, 91, 93, 44, 58, 59, 61, 60, 62, 45] c)
  have iw := index_has [60, 62, 61, 33, 94] c
  have ia := index_has [123, 125, 40, 41, 91, 93, 44, 58, 59, 61, 60, 62, 45] c
  have hsg := hid (sgn_c (c := c) (t := t))
  change _ ↔ withE c = true at iw
  change _ ↔ alone c = true at ia
  change Hid (∀ w, Calls _ _ _ _ fun e w' => e = .returned (.bool (Lib.hasPrefix t [61])) ∧ w' = w) at hpre
  generalize Lib.indexByte [60, 62, 61, 33, 94] c = xw at *
  generalize Lib.indexByte [123, 125, 40, 41, 91, 93, 44, 58, 59, 61, 60, 62, 45] c = xa at *
  generalize sgn (c :: t) = n at *
  generalize Lib.hasPrefix t [61] = p at *
  have hsl : 0 < s.length := by rw [hst.out]; simp
  have e2 : (⟨s.toArray⟩ : ByteArray).extract 1 s.length = ⟨t.toArray⟩ := by rw [ext_from s 1 _ rfl, hst.out]; rfl
  have hget := get_at hsl
  rw [show s.getD 0 0 = c by rw [hst.out]; rfl] at hget
  unfold str
  have c1 : (1 : Int) ≤ (s.length : Int) := by omega
  have c2 : (0 : Int) < (s.length : Int) := by omega
  have tw : Hid (p = true → withE c = true → n = 2) := fun h1 h2 => by
    have := hsg.out
    rw [h1, h2] at this
    simpa using this
  have tn : Hid ((p = false ∨ withE c = false) → n = if alone c then 1 else 0) := fun h1 => by
    have := hsg.out
    rcases h1 with h1 | h1 <;> rw [h1] at this <;> simpa using this
  clear hsg hst
  cases p
  · have hn := tn.out (.inl rfl)
    clear tn tw iw
    by_cases h2 : 0 ≤ xa
    · rw [ia.1 h2] at hn
      have e : Hid ((1 : Int) = (n : Int)) := by unfold Hid; rw [hn]; rfl
      clear hn ia
      go_enter Tryz.func81, Tryz.ntmps81
      go_wp2_with (first | (go_at_call 99; refine (hpre.out _).mono ?_; rintro e w' ⟨rfl, hw'⟩; have hw2 := hw'.symm; subst hw2) | (go_at_call 105; refine (ha.out _).mono ?_; rintro e w' ⟨rfl, hw'⟩; have hw2 := hw'.symm; subst hw2))
      go_ret
      exact ⟨ret_int e.out, rfl⟩
    · have hf : alone c = false := by simpa using mt ia.2 h2
      rw [hf] at hn
      have e : Hid ((0 : Int) = (n : Int)) := by unfold Hid; rw [hn]; rfl
      clear hn ia hf
      go_enter Tryz.func81, Tryz.ntmps81
      go_wp2_with (first | (go_at_call 99; refine (hpre.out _).mono ?_; rintro e w' ⟨rfl, hw'⟩; have hw2 := hw'.symm; subst hw2) | (go_at_call 105; refine (ha.out _).mono ?_; rintro e w' ⟨rfl, hw'⟩; have hw2 := hw'.symm; subst hw2))
      go_ret
      exact ⟨ret_int e.out, rfl⟩
  · by_cases h3 : 0 ≤ xw
    · have hn := tw.out rfl (iw.1 h3)
      have e : Hid ((2 : Int) = (n : Int)) := by unfold Hid; rw [hn]; rfl
      clear hn ia iw tn tw
      go_enter Tryz.func81, Tryz.ntmps81
      go_wp2_with (first | (go_at_call 99; refine (hpre.out _).mono ?_; rintro e w' ⟨rfl, hw'⟩; have hw2 := hw'.symm; subst hw2) | (go_at_call 105; refine (hw.out _).mono ?_; rintro e w' ⟨rfl, hw'⟩; have hw2 := hw'.symm; subst hw2))
      go_ret
      exact ⟨ret_int e.out, rfl⟩
    · have hn := tn.out (.inr (by simpa using mt iw.2 h3))
      clear tn tw iw
      by_cases h2 : 0 ≤ xa
      · rw [ia.1 h2] at hn
        have e : Hid ((1 : Int) = (n : Int)) := by unfold Hid; rw [hn]; rfl
        clear hn ia
        go_enter Tryz.func81, Tryz.ntmps81
        go_wp2_with (first | (go_at_call 99; refine (hpre.out _).mono ?_; rintro e w' ⟨rfl, hw'⟩; have hw2 := hw'.symm; subst hw2) | (go_at_call 105; first | (refine (hw.out _).mono ?_; clear hw; rintro e w' ⟨rfl, hw'⟩; have hw2 := hw'.symm; subst hw2) | (refine (ha.out _).mono ?_; rintro e w' ⟨rfl, hw'⟩; have hw2 := hw'.symm; subst hw2)))
        go_ret
        exact ⟨ret_int e.out, rfl⟩
      · have hf : alone c = false := by simpa using mt ia.2 h2
        rw [hf] at hn
        have e : Hid ((0 : Int) = (n : Int)) := by unfold Hid; rw [hn]; rfl
        clear hn ia hf
        go_enter Tryz.func81, Tryz.ntmps81
        go_wp2_with (first | (go_at_call 99; refine (hpre.out _).mono ?_; rintro e w' ⟨rfl, hw'⟩; have hw2 := hw'.symm; subst hw2) | (go_at_call 105; first | (refine (hw.out _).mono ?_; clear hw; rintro e w' ⟨rfl, hw'⟩; have hw2 := hw'.symm; subst hw2) | (refine (ha.out _).mono ?_; rintro e w' ⟨rfl, hw'⟩; have hw2 := hw'.symm; subst hw2)))
        go_ret
        exact ⟨ret_int e.out, rfl⟩
theorem fract_c {q : Tx} : fract q = if Lib.hasPrefix q [46] = true ∧ 0 < cnt dig (Lib.trimPrefix q [46]) then cnt dig (Lib.trimPrefix q [46]) + 1 else 0 := by
  cases q with
  | nil => rfl
  | cons c q =>
    have ht : (c :: q : Tx) = c :: q := rfl
    show (if c = 46 then (if cnt dig q = 0 then 0 else cnt dig q + 1) else 0) = _
    rw [hasP_cons]
    by_cases h : c = 46
    · subst h
      have : Lib.trimPrefix (46 :: q) [46] = q := by simp [Lib.trimPrefix, Lib.hasPrefix]
      rw [this, if_pos rfl]
      by_cases h0 : cnt dig q = 0
      · simp [h0]
      · have : 0 < cnt dig q := by omega
        simp [h0, this]
    · have : ((46 : UInt8) == c) = false := by simpa using fun e : (46 : UInt8) = c => h e.symm
      rw [if_neg h, this]
      simp
theorem trim_len (q p : Tx) : (Lib.trimPrefix q p).length ≤ q.length := by
  unfold Lib.trimPrefix
  split <;> simp
set_option maxHeartbeats 1000000 in
theorem number_any (s : Tx) (hs : s.length ≤ 35184372088832) (w : World) : Calls Tryz.prog 79 #[str s] w fun e w' => e = .returned (.int .i64 (numL s : Int)) ∧ w' = w := by
  have h1 := hid (count_digit s (by omega))
  have hle := cnt_le dig s
  have hnum : Hid (numL s = cnt dig s + fract (s.drop (cnt dig s))) := rfl
  generalize cnt dig s = n at *
  have e2 := ext_from s n s.length rfl
  have hql : (s.drop n).length ≤ 35184372088832 := by simp; omega
  generalize s.drop n = q at *
  have hfr := hid (fract_c (q := q))
  have hpre := hid (Tryz.strings_CutPrefix ⟨q.toArray⟩ ⟨#[46]⟩)
  change Hid (∀ w, Calls _ _ _ _ fun e w' => e = .returned (.tuple #[.string ⟨(Lib.trimPrefix q [46]).toArray⟩, .bool (Lib.hasPrefix q [46])]) ∧ w' = w) at hpre
  have htl := trim_len q [46]
  generalize Lib.trimPrefix q [46] = r at *
  have h3 := hid (count_digit r (by omega))
  have hrl := cnt_le dig r
  generalize cnt dig r = m at *
  generalize Lib.hasPrefix q [46] = p at *
  generalize fract q = f at *
  generalize numL s = x at *
  have c3 : (0 : Int) ≤ (n : Int) := by omega
  have c4 : (n : Int) ≤ (s.length : Int) := by omega
  have c5 : IntKind.i64.wrap (1 + (m : Int)) = 1 + (m : Int) := by rw [IntKind.wrap_i64]; omega
  have c6 : IntKind.i64.wrap ((n : Int) + (1 + (m : Int))) = (n : Int) + (1 + (m : Int)) := by rw [IntKind.wrap_i64]; omega
  unfold str at *
  cases p
  · have e : Hid ((n : Int) = (x : Int)) := by
      unfold Hid
      rw [hnum.out, hfr.out]
      simp
    clear hnum hfr
    go_enter Tryz.func79, Tryz.ntmps79
    go_wp2_with (first | (go_at_call 104; refine (hpre.out _).mono ?_; rintro e w' ⟨rfl, hw'⟩; have hw2 := hw'.symm; subst hw2) | (go_at_call 74; first | (refine (h1.out _).mono ?_; clear h1; rintro e w' ⟨rfl, hw'⟩; have hw2 := hw'.symm; subst hw2) | (refine (h3.out _).mono ?_; rintro e w' ⟨rfl, hw'⟩; have hw2 := hw'.symm; subst hw2)))
    go_ret
    exact ⟨ret_int e.out, rfl⟩
  · by_cases h0 : 0 < m
    · have h0' : (0 : Int) < (m : Int) := by omega
      have e : Hid ((n : Int) + (1 + (m : Int)) = (x : Int)) := by
        unfold Hid
        rw [hnum.out, hfr.out, if_pos ⟨rfl, h0⟩]
        omega
      clear hnum hfr
      go_enter Tryz.func79, Tryz.ntmps79
      go_wp2_with (first | (go_at_call 104; refine (hpre.out _).mono ?_; rintro e w' ⟨rfl, hw'⟩; have hw2 := hw'.symm; subst hw2) | (go_at_call 74; first | (refine (h1.out _).mono ?_; clear h1; rintro e w' ⟨rfl, hw'⟩; have hw2 := hw'.symm; subst hw2) | (refine (h3.out _).mono ?_; rintro e w' ⟨rfl, hw'⟩; have hw2 := hw'.symm; subst hw2)))
      go_ret
      exact ⟨ret_int e.out, rfl⟩
    · have h0' : ¬ (0 : Int) < (m : Int) := by omega
      have e : Hid ((n : Int) = (x : Int)) := by
        unfold Hid
        rw [hnum.out, hfr.out, if_neg (fun h => h0 h.2)]
        omega
      clear hnum hfr
      go_enter Tryz.func79, Tryz.ntmps79
      go_wp2_with (first | (go_at_call 104; refine (hpre.out _).mono ?_; rintro e w' ⟨rfl, hw'⟩; have hw2 := hw'.symm; subst hw2) | (go_at_call 74; first | (refine (h1.out _).mono ?_; clear h1; rintro e w' ⟨rfl, hw'⟩; have hw2 := hw'.symm; subst hw2) | (refine (h3.out _).mono ?_; rintro e w' ⟨rfl, hw'⟩; have hw2 := hw'.symm; subst hw2)))
      go_ret
      exact ⟨ret_int e.out, rfl⟩
end Go.Proofs.YtjhodmpgggaknaaGreatDoor
/- Contract of first: the token that a text begins with. -/
namespace Go.Proofs.YtjhodmpgggaknaaGreatDoor
open Go.RowKit Go.Shelf

def textF (n : Nat) : Option (Tx × Tx) → Nat × Tx × Nat
  | none => (3, [], 0)
  | some p => (3, p.1, n + 1 - p.2.length)
/-- what first tells: of a text that begins with no token, no bytes. -/
def firstF : Tx → Nat × Tx × Nat
  | [] => (0, [], 0)
  | c :: t =>
    if low c then (1, (c :: t).take (cnt nmc (c :: t)), cnt nmc (c :: t))
    else if dig c then (2, (c :: t).take (numL (c :: t)), numL (c :: t))
    else if c = 34 then textF t.length (unqP [] t)
    else (4, (c :: t).take (sgn (c :: t)), sgn (c :: t))
theorem first_F (s : Tx) : first s = if (firstF s).2.2 = 0 then none else some (firstF s) := by
  cases s with
  | nil => rfl
  | cons c t =>
    cases h1 : low c
    · cases h2 : dig c
      · by_cases h3 : c = 34
        · subst h3
          have e : firstF (34 :: t) = textF t.length (unqP [] t) := by
            rw [firstF, if_neg (by rw [h1]; simp), if_neg (by rw [h2]; simp), if_pos rfl]
          rw [e, first_text]
          cases hu : unqP [] t with
          | none => rfl
          | some p =>
            obtain ⟨v, r⟩ := p
            have := (unqP_iff.1 hu).1
            have hl : r.length ≤ t.length := by rw [this]; simp; omega
            show some (3, v, t.length + 1 - r.length) = if t.length + 1 - r.length = 0 then none else some (3, v, t.length + 1 - r.length)
            rw [if_neg (by omega)]
        · have e : firstF (c :: t) = (4, (c :: t).take (sgn (c :: t)), sgn (c :: t)) := by
            rw [firstF, if_neg (by rw [h1]; simp), if_neg (by rw [h2]; simp), if_neg h3]
          rw [e, first_sign h1 h2 h3]
      · have e : firstF (c :: t) = (2, (c :: t).take (numL (c :: t)), numL (c :: t)) := by
          rw [firstF, if_neg (by rw [h1]; simp), if_pos h2]
        rw [e, first_num h1 h2, if_neg (by have := numL_pos (t := t) h2; simp only []; omega)]
    · have e : firstF (c :: t) = (1, (c :: t).take (cnt nmc (c :: t)), cnt nmc (c :: t)) := by
        rw [firstF, if_pos h1]
      rw [e, first_word h1, if_neg (by rw [cnt_pos (low_nmc h1)]; simp)]
def tokV (r : Nat × Tx × Nat) : Value := .tuple #[.int .u8 (r.1 : Int), str r.2.1, .int .i64 (r.2.2 : Int)]
set_option maxHeartbeats 2000000 in
theorem first_any (s : Tx) (h0 : 0 < s.length) (hs : s.length ≤ 35184372088832) (w : World) : Calls Tryz.prog 57 #[str s] w fun e w' => e = .returned (tokV (firstF s)) ∧ Below w.heap.size w w' := by
  have hget := get_at h0
  have hdr := drop_at h0
  rw [List.drop_zero, Nat.zero_add] at hdr
  obtain ⟨c, hcd⟩ : ∃ c, c = s.getD 0 0 := ⟨_, rfl⟩
  rw [← hcd] at hget hdr
  clear hcd
  generalize ht : s.drop 1 = t at *
  have hdr' := hid hdr
  have hlo := hid (letter_any c)
  have hdi := hid (digit_any c)
  have hF : Hid (firstF s = if low c then (1, s.take (cnt nmc s), cnt nmc s) else if dig c then (2, s.take (numL s), numL s) else if c = 34 then textF t.length (unqP [] t) else (4, s.take (sgn s), sgn s)) := by
    unfold Hid
    rw [hdr]
    rfl
  clear hdr
  have h0' : (0 : Int) < (s.length : Int) := by omega
  cases h1 : low c
  · rw [h1] at hlo hF
    cases h2 : dig c
    · rw [h2] at hdi hF
      by_cases h34 : c.toNat = 34
      · have hc : c = 34 := UInt8.toNat_inj.1 h34
        have t1 : ((c.toNat : Int) == 34) = true := by simp; omega
        have hun := hid (unquote_any s w h0 hs)
        rw [ht] at hun
        have hF2 : Hid (firstF s = textF t.length (unqP [] t)) := by
          unfold Hid
          rw [hF.out, if_neg (by simp), if_neg (by simp), if_pos hc]
        have hsl : s.length = t.length + 1 := by rw [hdr'.out]; simp
        clear hF h1 h2 h34 hc
        cases hu : unqP [] t with
        | none =>
          rw [hu] at hF2 hun
          rw [hF2.out]
          clear hF2 hdr' ht hsl
          unfold textF tokV unqV str at *
          go_enter Tryz.func57, Tryz.ntmps57
          go_wp2_with (first | (go_at_call 76; refine (hlo.out _).mono ?_; rintro e w' ⟨rfl, hw'⟩; have hw2 := hw'.symm; subst hw2) | (go_at_call 78; refine (hdi.out _).mono ?_; rintro e w' ⟨rfl, hw'⟩; have hw2 := hw'.symm; subst hw2) | (go_at_call 80; refine hun.out.mono ?_; rintro e w' ⟨rfl, hB⟩))
          go_ret3
          exact ⟨rfl, hB⟩
        | some p =>
          obtain ⟨v, r⟩ := p
          rw [hu] at hF2 hun
          rw [hF2.out]
          have e : Hid (Value.tuple #[Value.int .u8 3, .string ⟨v.toArray⟩, .int .i64 ((s.length - r.length : Nat) : Int)] = tokV (textF t.length (some (v, r)))) := by
            unfold Hid tokV textF str
            simp only []
            rw [hsl]
            rfl
          clear hF2 hdr' ht hsl
          simp only [unqV] at hun
          unfold str at *
          generalize s.length - r.length = u at *
          go_enter Tryz.func57, Tryz.ntmps57
          go_wp2_with (first | (go_at_call 76; refine (hlo.out _).mono ?_; rintro e w' ⟨rfl, hw'⟩; have hw2 := hw'.symm; subst hw2) | (go_at_call 78; refine (hdi.out _).mono ?_; rintro e w' ⟨rfl, hw'⟩; have hw2 := hw'.symm; subst hw2) | (go_at_call 80; refine hun.out.mono ?_; rintro e w' ⟨rfl, hB⟩))
          go_ret3
          exact ⟨congrArg Ending.returned e.out, hB⟩
      · have hc : c ≠ 34 := fun e => h34 (by rw [e]; rfl)
        have t1 : ((c.toNat : Int) == 34) = false := by simp; omega
        have hsi := hid (sign_any s c t hdr' (by omega))
        have hle := sgn_le s
        have e2 := ext_to s (sgn s)
        have hF2 : Hid (Value.tuple #[Value.int .u8 4, .string ⟨(s.take (sgn s)).toArray⟩, .int .i64 (sgn s : Int)] = tokV (firstF s)) := by
          unfold Hid
          rw [hF.out, if_neg (by simp), if_neg (by simp), if_neg hc]
          rfl
        rw [← hdr'.out] at hsi
        clear hF h1 h2 h34 hc hdr' ht
        generalize sgn s = n at *
        generalize tokV (firstF s) = R at *
        have c3 : (0 : Int) ≤ (n : Int) := by omega
        have c4 : (n : Int) ≤ (s.length : Int) := by omega
        unfold str at *
        go_enter Tryz.func57, Tryz.ntmps57
        go_wp2_with (first | (go_at_call 76; refine (hlo.out _).mono ?_; rintro e w' ⟨rfl, hw'⟩; have hw2 := hw'.symm; subst hw2) | (go_at_call 78; refine (hdi.out _).mono ?_; rintro e w' ⟨rfl, hw'⟩; have hw2 := hw'.symm; subst hw2) | (go_at_call 81; refine (hsi.out _).mono ?_; rintro e w' ⟨rfl, hw'⟩; have hw2 := hw'.symm; subst hw2))
        go_quiet (fail)
        go_wp2
        go_ret3
        exact ⟨congrArg Ending.returned hF2.out, below_drewN (Below.refl _ _)⟩
    · rw [h2] at hdi hF
      have hnu := hid (number_any s hs)
      have hle := numL_le s
      have e2 := ext_to s (numL s)
      have hF2 : Hid (Value.tuple #[Value.int .u8 2, .string ⟨(s.take (numL s)).toArray⟩, .int .i64 (numL s : Int)] = tokV (firstF s)) := by
        unfold Hid
        rw [hF.out, if_neg (by simp), if_pos rfl]
        rfl
      clear hF h1 h2 hdr' ht
      generalize numL s = n at *
      generalize tokV (firstF s) = R at *
      have c3 : (0 : Int) ≤ (n : Int) := by omega
      have c4 : (n : Int) ≤ (s.length : Int) := by omega
      unfold str at *
      go_enter Tryz.func57, Tryz.ntmps57
      go_wp2_with (first | (go_at_call 76; refine (hlo.out _).mono ?_; rintro e w' ⟨rfl, hw'⟩; have hw2 := hw'.symm; subst hw2) | (go_at_call 78; refine (hdi.out _).mono ?_; rintro e w' ⟨rfl, hw'⟩; have hw2 := hw'.symm; subst hw2) | (go_at_call 79; refine (hnu.out _).mono ?_; rintro e w' ⟨rfl, hw'⟩; have hw2 := hw'.symm; subst hw2))
      go_quiet (fail)
      go_wp2
      go_ret3
      exact ⟨congrArg Ending.returned hF2.out, below_drewN (Below.refl _ _)⟩
  · rw [h1] at hlo hF
    have hct := hid (count_word s (by omega))
    have hle := cnt_le nmc s
    have e2 := ext_to s (cnt nmc s)
    have hF2 : Hid (Value.tuple #[Value.int .u8 1, .string ⟨(s.take (cnt nmc s)).toArray⟩, .int .i64 (cnt nmc s : Int)] = tokV (firstF s)) := by
      unfold Hid
      rw [hF.out, if_pos rfl]
      rfl
    clear hF h1 hdr' ht
    generalize cnt nmc s = n at *
    generalize tokV (firstF s) = R at *
    have c3 : (0 : Int) ≤ (n : Int) := by omega
    have c4 : (n : Int) ≤ (s.length : Int) := by omega
    unfold str at *
    go_enter Tryz.func57, Tryz.ntmps57
    go_wp2_with (first | (go_at_call 76; refine (hlo.out _).mono ?_; rintro e w' ⟨rfl, hw'⟩; have hw2 := hw'.symm; subst hw2) | (go_at_call 74; refine (hct.out _).mono ?_; rintro e w' ⟨rfl, hw'⟩; have hw2 := hw'.symm; subst hw2))
    go_quiet (fail)
    go_wp2
    go_ret3
    exact ⟨congrArg Ending.returned hF2.out, below_drewN (Below.refl _ _)⟩
end Go.Proofs.YtjhodmpgggaknaaGreatDoor
