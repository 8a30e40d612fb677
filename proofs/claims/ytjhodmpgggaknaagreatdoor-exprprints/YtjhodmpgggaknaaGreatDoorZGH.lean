/- Joined: C4 C5. -/
import Derived.Test.YtjhodmpgggaknaaGreatDoorZGG
import Derived.Test.YtjhodmpgggaknaaGreatDoorZShelf
import Derived.Lib.IndexLaws
/- Contracts: number, sign, first. -/
namespace Go.Proofs.YtjhodmpgggaknaaGreatDoor
open Go.RowKit Go.Shelf

/-- whether a byte is among some. -/
theorem index_has : ∀ (l : List UInt8) (c : UInt8), (0 ≤ Lib.indexByte l c) ↔ l.contains c = true
  | [], c => by simp [Lib.indexByte]
  | b :: l, c => by
    have ih := index_has l c
    have hg := Lib.indexByte_ge l c
    rw [Lib.indexByte]
    by_cases h : b = c
    · subst h; simp
    · have hne : (b == c) = false := by simpa using h
      have hcb : ¬ c = b := fun e => h e.symm
      rw [if_neg (by rw [hne]; simp), List.contains_cons, show (c == b) = false by simpa using hcb, Bool.false_or, ← ih]
      split
      · rename_i h1
        have : Lib.indexByte l c = -1 := by simpa using h1
        omega
      · rename_i h1
        have : Lib.indexByte l c ≠ -1 := by simpa using h1
        omega
theorem nat_byte (c : UInt8) : ((c.toNat : Int)).toNat.toUInt8 = c := by
  simp
theorem idx_any (l : Tx) (c : UInt8) (w : World) : Calls Tryz.prog 105 #[.string ⟨l.toArray⟩, .int .u8 (c.toNat : Int)] w fun e w' => e = .returned (.int .i64 (Lib.indexByte l c)) ∧ w' = w := by
  have := Tryz.strings_IndexByte ⟨l.toArray⟩ (c.toNat : Int) w
  rw [nat_byte] at this
  exact this
theorem hasP_cons {c : UInt8} {t : Tx} {d : UInt8} : Lib.hasPrefix (c :: t) [d] = (d == c) := by
  unfold Lib.hasPrefix
  rw [List.isPrefixOf, List.isPrefixOf, Bool.and_true]
theorem sgn_c {c : UInt8} {t : Tx} : sgn (c :: t) = if Lib.hasPrefix t [61] = true ∧ withE c = true then 2 else if alone c then 1 else 0 := by
  cases t with
  | nil => simp [sgn, Lib.hasPrefix]
  | cons d t =>
    rw [sgn, hasP_cons]
    have : ((61 : UInt8) == d) = true ↔ d = 61 := by rw [beq_iff_eq]; exact ⟨Eq.symm, Eq.symm⟩
    simp only [this]
set_option maxHeartbeats 1000000 in
theorem sign_any (s : Tx) (c : UInt8) (t : Tx) (hst : Hid (s = c :: t)) (hs : s.length ≤ 9223372036854775806) (w : World) : Calls Tryz.prog 81 #[str s] w fun e w' => e = .returned (.int .i64 (sgn (c :: t) : Int)) ∧ w' = w := by
  have hpre := hid (Tryz.strings_HasPrefix ⟨t.toArray⟩ ⟨#[61]⟩)
  have hw := hid (idx_any [60, 62, 61, 33, 94] c)
  have ha := hid (idx_any [123, 125, 40, 41, 91, 93, 44, 58, 59, 61, 60, 62, 45] c)
  have iw := index_has [60, 62, 61, 33, 94] c
  have ia := index_has [123, 125, 40, 41, 91, 93, 44, 58, 59, 61, 60, 62, 45] c
  have hsg := hid (sgn_c (c := c) (t := t))
  change _ ↔ withE c = true at iw
  change _ ↔ alone c = true at ia
  change Hid (∀ w, Calls _ _ _ _ fun e w' => e = .returned (.bool (Lib.hasPrefix t [61])) ∧ w' = w) at hpre
  generalize Lib.indexByte [60, 62, 61, 33, 94] c = xw at *
  generalize Lib.indexByte [123, 125, 40, 41, 91, 93, 44, 58, 59, 61, 60, 62, 45] c = xa at *
  generalize sgn (c :: t) = n at *
  generalize Lib.hasPrefix t [61] = p at *
  have hsl : 0 < s.length := by rw [hst.out]; simp
  have e2 : (⟨s.toArray⟩ : ByteArray).extract 1 s.length = ⟨t.toArray⟩ := by rw [ext_from s 1 _ rfl, hst.out]; rfl
  have hget := get_at hsl
  rw [show s.getD 0 0 = c by rw [hst.out]; rfl] at hget
  unfold str
  have c1 : (1 : Int) ≤ (s.length : Int) := by omega
  have c2 : (0 : Int) < (s.length : Int) := by omega
  have tw : Hid (p = true → withE c = true → n = 2) := fun h1 h2 => by
    have := hsg.out
    rw [h1, h2] at this
    simpa using this
  have tn : Hid ((p = false ∨ withE c = false) → n = if alone c then 1 else 0) := fun h1 => by
    have := hsg.out
    rcases h1 with h1 | h1 <;> rw [h1] at this <;> simpa using this
  clear hsg hst
  cases p
  · have hn := tn.out (.inl rfl)
    clear tn tw iw
    by_cases h2 : 0 ≤ xa
    · rw [ia.1 h2] at hn
      have e : Hid ((1 : Int) = (n : Int)) := by unfold Hid; rw [hn]; rfl
      clear hn ia
      go_enter Tryz.func81, Tryz.ntmps81
      go_wp2_with (first | (go_at_call 99; refine (hpre.out _).mono ?_; rintro e w' ⟨rfl, hw'⟩; have hw2 := hw'.symm; subst hw2) | (go_at_call 105; refine (ha.out _).mono ?_; rintro e w' ⟨rfl, hw'⟩; have hw2 := hw'.symm; subst hw2))
      go_ret
      exact ⟨ret_int e.out, rfl⟩
    · have hf : alone c = false := by simpa using mt ia.2 h2
      rw [hf] at hn
      have e : Hid ((0 : Int) = (n : Int)) := by unfold Hid; rw [hn]; rfl
      clear hn ia hf
      go_enter Tryz.func81, Tryz.ntmps81
      go_wp2_with (first | (go_at_call 99; refine (hpre.out _).mono ?_; rintro e w' ⟨rfl, hw'⟩; have hw2 := hw'.symm; subst hw2) | (go_at_call 105; refine (ha.out _).mono ?_; rintro e w' ⟨rfl, hw'⟩; have hw2 := hw'.symm; subst hw2))
      go_ret
      exact ⟨ret_int e.out, rfl⟩
  · by_cases h3 : 0 ≤ xw
    · have hn := tw.out rfl (iw.1 h3)
      have e : Hid ((2 : Int) = (n : Int)) := by unfold Hid; rw [hn]; rfl
      clear hn ia iw tn tw
      go_enter Tryz.func81, Tryz.ntmps81
      go_wp2_with (first | (go_at_call 99; refine (hpre.out _).mono ?_; rintro e w' ⟨rfl, hw'⟩; have hw2 := hw'.symm; subst hw2) | (go_at_call 105; refine (hw.out _).mono ?_; rintro e w' ⟨rfl, hw'⟩; have hw2 := hw'.symm; subst hw2))
      go_ret
      exact ⟨ret_int e.out, rfl⟩
    · have hn := tn.out (.inr (by simpa using mt iw.2 h3))
      clear tn tw iw
      by_cases h2 : 0 ≤ xa
      · rw [ia.1 h2] at hn
        have e : Hid ((1 : Int) = (n : Int)) := by unfold Hid; rw [hn]; rfl
        clear hn ia
        go_enter Tryz.func81, Tryz.ntmps81
        go_wp2_with (first | (go_at_call 99; refine (hpre.out _).mono ?_; rintro e w' ⟨rfl, hw'⟩; have hw2 := hw'.symm; subst hw2) | (go_at_call 105; first | (refine (hw.out _).mono ?_; clear hw; rintro e w' ⟨rfl, hw'⟩; have hw2 := hw'.symm; subst hw2) | (refine (ha.out _).mono ?_; rintro e w' ⟨rfl, hw'⟩; have hw2 := hw'.symm; subst hw2)))
        go_ret
        exact ⟨ret_int e.out, rfl⟩
      · have hf : alone c = false := by simpa using mt ia.2 h2
        rw [hf] at hn
        have e : Hid ((0 : Int) = (n : Int)) := by unfold Hid; rw [hn]; rfl
        clear hn ia hf
        go_enter Tryz.func81, Tryz.ntmps81
        go_wp2_with (first | (go_at_call 99; refine (hpre.out _).mono ?_; rintro e w' ⟨rfl, hw'⟩; have hw2 := hw'.symm; subst hw2) | (go_at_call 105; first | (refine (hw.out _).mono ?_; clear hw; rintro e w' ⟨rfl, hw'⟩; have hw2 := hw'.symm; subst hw2) | (refine (ha.out _).mono ?_; rintro e w' ⟨rfl, hw'⟩; have hw2 := hw'.symm; subst hw2)))
        go_ret
        exact ⟨ret_int e.out, rfl⟩
theorem trim_len (q p : Tx) : (Lib.trimPrefix q p).length ≤ q.length := by
  unfold Lib.trimPrefix
  split <;> simp
end Go.Proofs.YtjhodmpgggaknaaGreatDoor
/- Contract of first: the token that a text begins with. -/
namespace Go.Proofs.YtjhodmpgggaknaaGreatDoor
open Go.RowKit Go.Shelf

end Go.Proofs.YtjhodmpgggaknaaGreatDoor
