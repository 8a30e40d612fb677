/- Contract of first: the token that a text begins with. -/
import Derived.Test.YtlggdeadkebgiaaC4
namespace Go.Proofs.Ytlggdeadkebgiaa
open Go.RowKit Go.Shelf

def textF (n : Nat) : Option (Tx × Tx) → Nat × Tx × Nat
  | none => (3, [], 0)
  | some p => (3, p.1, n + 1 - p.2.length)
/-- what first tells: of a text that begins with no token, no bytes. -/
def firstF : Tx → Nat × Tx × Nat
  | [] => (0, [], 0)
  | c :: t =>
    if low c then (1, (c :: t).take (cnt nmc (c :: t)), cnt nmc (c :: t))
    else if dig c then (2, (c :: t).take (numL (c :: t)), numL (c :: t))
    else if c = 34 then textF t.length (unqP [] t)
    else (4, (c :: t).take (sgn (c :: t)), sgn (c :: t))
theorem first_F (s : Tx) : first s = if (firstF s).2.2 = 0 then none else some (firstF s) := by
  cases s with
  | nil => rfl
  | cons c t =>
    cases h1 : low c
    · cases h2 : dig c
      · by_cases h3 : c = 34
        · subst h3
          have e : firstF (34 :: t) = textF t.length (unqP [] t) := by
            rw [firstF, if_neg (by rw [h1]; simp), if_neg (by rw [h2]; simp), if_pos rfl]
          rw [e, first_text]
          cases hu : unqP [] t with
          | none => rfl
          | some p =>
            obtain ⟨v, r⟩ := p
            have := (unqP_iff.1 hu).1
            have hl : r.length ≤ t.length := by rw [this]; simp; omega
            show some (3, v, t.length + 1 - r.length) = if t.length + 1 - r.length = 0 then none else some (3, v, t.length + 1 - r.length)
            rw [if_neg (by omega)]
        · have e : firstF (c :: t) = (4, (c :: t).take (sgn (c :: t)), sgn (c :: t)) := by
            rw [firstF, if_neg (by rw [h1]; simp), if_neg (by rw [h2]; simp), if_neg h3]
          rw [e, first_sign h1 h2 h3]
      · have e : firstF (c :: t) = (2, (c :: t).take (numL (c :: t)), numL (c :: t)) := by
          rw [firstF, if_neg (by rw [h1]; simp), if_pos h2]
        rw [e, first_num h1 h2, if_neg (by have := numL_pos (t := t) h2; simp only []; omega)]
    · have e : firstF (c :: t) = (1, (c :: t).take (cnt nmc (c :: t)), cnt nmc (c :: t)) := by
        rw [firstF, if_pos h1]
      rw [e, first_word h1, if_neg (by rw [cnt_pos (low_nmc h1)]; simp)]
def tokV (r : Nat × Tx × Nat) : Value := .tuple #[.int .u8 (r.1 : Int), str r.2.1, .int .i64 (r.2.2 : Int)]
set_option maxHeartbeats 2000000 in
theorem first_any (s : Tx) (h0 : 0 < s.length) (hs : s.length ≤ 35184372088832) (w : World) : Calls Try.prog 22 #[str s] w fun e w' => e = .returned (tokV (firstF s)) ∧ Below w.heap.size w w' := by
  have hget := get_at h0
  have hdr := drop_at h0
  rw [List.drop_zero, Nat.zero_add] at hdr
  obtain ⟨c, hcd⟩ : ∃ c, c = s.getD 0 0 := ⟨_, rfl⟩
  rw [← hcd] at hget hdr
  clear hcd
  generalize ht : s.drop 1 = t at *
  have hdr' := hid hdr
  have hlo := hid (letter_any c)
  have hdi := hid (digit_any c)
  have hF : Hid (firstF s = if low c then (1, s.take (cnt nmc s), cnt nmc s) else if dig c then (2, s.take (numL s), numL s) else if c = 34 then textF t.length (unqP [] t) else (4, s.take (sgn s), sgn s)) := by
    unfold Hid
    rw [hdr]
    rfl
  clear hdr
  have h0' : (0 : Int) < (s.length : Int) := by omega
  cases h1 : low c
  · rw [h1] at hlo hF
    cases h2 : dig c
    · rw [h2] at hdi hF
      by_cases h34 : c.toNat = 34
      · have hc : c = 34 := UInt8.toNat_inj.1 h34
        have t1 : ((c.toNat : Int) == 34) = true := by simp; omega
        have hun := hid (unquote_any s w h0 hs)
        rw [ht] at hun
        have hF2 : Hid (firstF s = textF t.length (unqP [] t)) := by
          unfold Hid
          rw [hF.out, if_neg (by simp), if_neg (by simp), if_pos hc]
        have hsl : s.length = t.length + 1 := by rw [hdr'.out]; simp
        clear hF h1 h2 h34 hc
        cases hu : unqP [] t with
        | none =>
          rw [hu] at hF2 hun
          rw [hF2.out]
          clear hF2 hdr' ht hsl
          unfold textF tokV unqV str at *
          go_enter Try.func22, Try.ntmps22
          go_wp2_with (first | (go_at_call 29; refine (hlo.out _).mono ?_; rintro e w' ⟨rfl, hw'⟩; have hw2 := hw'.symm; subst hw2) | (go_at_call 31; refine (hdi.out _).mono ?_; rintro e w' ⟨rfl, hw'⟩; have hw2 := hw'.symm; subst hw2) | (go_at_call 33; refine hun.out.mono ?_; rintro e w' ⟨rfl, hB⟩))
          go_ret3
          exact ⟨rfl, hB⟩
        | some p =>
          obtain ⟨v, r⟩ := p
          rw [hu] at hF2 hun
          rw [hF2.out]
          have e : Hid (Value.tuple #[Value.int .u8 3, .string ⟨v.toArray⟩, .int .i64 ((s.length - r.length : Nat) : Int)] = tokV (textF t.length (some (v, r)))) := by
            unfold Hid tokV textF str
            simp only []
            rw [hsl]
            rfl
          clear hF2 hdr' ht hsl
          simp only [unqV] at hun
          unfold str at *
          generalize s.length - r.length = u at *
          go_enter Try.func22, Try.ntmps22
          go_wp2_with (first | (go_at_call 29; refine (hlo.out _).mono ?_; rintro e w' ⟨rfl, hw'⟩; have hw2 := hw'.symm; subst hw2) | (go_at_call 31; refine (hdi.out _).mono ?_; rintro e w' ⟨rfl, hw'⟩; have hw2 := hw'.symm; subst hw2) | (go_at_call 33; refine hun.out.mono ?_; rintro e w' ⟨rfl, hB⟩))
          go_ret3
          exact ⟨congrArg Ending.returned e.out, hB⟩
      · have hc : c ≠ 34 := fun e => h34 (by rw [e]; rfl)
        have t1 : ((c.toNat : Int) == 34) = false := by simp; omega
        have hsi := hid (sign_any s c t hdr' (by omega))
        have hle := sgn_le s
        have e2 := ext_to s (sgn s)
        have hF2 : Hid (Value.tuple #[Value.int .u8 4, .string ⟨(s.take (sgn s)).toArray⟩, .int .i64 (sgn s : Int)] = tokV (firstF s)) := by
          unfold Hid
          rw [hF.out, if_neg (by simp), if_neg (by simp), if_neg hc]
          rfl
        rw [← hdr'.out] at hsi
        clear hF h1 h2 h34 hc hdr' ht
        generalize sgn s = n at *
        generalize tokV (firstF s) = R at *
        have c3 : (0 : Int) ≤ (n : Int) := by omega
        have c4 : (n : Int) ≤ (s.length : Int) := by omega
        unfold str at *
        go_enter Try.func22, Try.ntmps22
        go_wp2_with (first | (go_at_call 29; refine (hlo.out _).mono ?_; rintro e w' ⟨rfl, hw'⟩; have hw2 := hw'.symm; subst hw2) | (go_at_call 31; refine (hdi.out _).mono ?_; rintro e w' ⟨rfl, hw'⟩; have hw2 := hw'.symm; subst hw2) | (go_at_call 34; refine (hsi.out _).mono ?_; rintro e w' ⟨rfl, hw'⟩; have hw2 := hw'.symm; subst hw2))
        go_quiet (fail)
        go_wp2
        go_ret3
        exact ⟨congrArg Ending.returned hF2.out, below_drewN (Below.refl _ _)⟩
    · rw [h2] at hdi hF
      have hnu := hid (number_any s hs)
      have hle := numL_le s
      have e2 := ext_to s (numL s)
      have hF2 : Hid (Value.tuple #[Value.int .u8 2, .string ⟨(s.take (numL s)).toArray⟩, .int .i64 (numL s : Int)] = tokV (firstF s)) := by
        unfold Hid
        rw [hF.out, if_neg (by simp), if_pos rfl]
        rfl
      clear hF h1 h2 hdr' ht
      generalize numL s = n at *
      generalize tokV (firstF s) = R at *
      have c3 : (0 : Int) ≤ (n : Int) := by omega
      have c4 : (n : Int) ≤ (s.length : Int) := by omega
      unfold str at *
      go_enter Try.func22, Try.ntmps22
      go_wp2_with (first | (go_at_call 29; refine (hlo.out _).mono ?_; rintro e w' ⟨rfl, hw'⟩; have hw2 := hw'.symm; subst hw2) | (go_at_call 31; refine (hdi.out _).mono ?_; rintro e w' ⟨rfl, hw'⟩; have hw2 := hw'.symm; subst hw2) | (go_at_call 32; refine (hnu.out _).mono ?_; rintro e w' ⟨rfl, hw'⟩; have hw2 := hw'.symm; subst hw2))
      go_quiet (fail)
      go_wp2
      go_ret3
      exact ⟨congrArg Ending.returned hF2.out, below_drewN (Below.refl _ _)⟩
  · rw [h1] at hlo hF
    have hct := hid (count_word s (by omega))
    have hle := cnt_le nmc s
    have e2 := ext_to s (cnt nmc s)
    have hF2 : Hid (Value.tuple #[Value.int .u8 1, .string ⟨(s.take (cnt nmc s)).toArray⟩, .int .i64 (cnt nmc s : Int)] = tokV (firstF s)) := by
      unfold Hid
      rw [hF.out, if_pos rfl]
      rfl
    clear hF h1 hdr' ht
    generalize cnt nmc s = n at *
    generalize tokV (firstF s) = R at *
    have c3 : (0 : Int) ≤ (n : Int) := by omega
    have c4 : (n : Int) ≤ (s.length : Int) := by omega
    unfold str at *
    go_enter Try.func22, Try.ntmps22
    go_wp2_with (first | (go_at_call 29; refine (hlo.out _).mono ?_; rintro e w' ⟨rfl, hw'⟩; have hw2 := hw'.symm; subst hw2) | (go_at_call 27; refine (hct.out _).mono ?_; rintro e w' ⟨rfl, hw'⟩; have hw2 := hw'.symm; subst hw2))
    go_quiet (fail)
    go_wp2
    go_ret3
    exact ⟨congrArg Ending.returned hF2.out, below_drewN (Below.refl _ _)⟩
end Go.Proofs.Ytlggdeadkebgiaa
