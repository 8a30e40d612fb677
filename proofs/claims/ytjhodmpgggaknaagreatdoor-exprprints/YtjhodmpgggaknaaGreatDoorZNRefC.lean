import Derived.Test.YtjhodmpgggaknaaGreatDoorZHH
import Derived.Test.YtjhodmpgggaknaaGreatDoorZNPrint
/- The contract of the document's own Print: for any number it returns the text that the plain function says; nothing that was in memory turns. -/
namespace Go.Proofs.YtjhodmpgggaknaaGreatDoor.Num
open Go.RowKit

/-- What the first loop holds: the digits that are still to come, ahead of those that stand. -/
def Whole (full : List UInt8) (u : Nat) (l : List UInt8) : Prop := (l = [] ∧ full = Lib.decDigits u) ∨ (l ≠ [] ∧ full = (if u = 0 then l else Lib.decDigits u ++ l))
theorem Whole.next {full : List UInt8} {u : Nat} {l : List UInt8} (h : Whole full u l) (hgo : 0 < u ∨ l = []) : Whole full (u / 10) (UInt8.ofNat (48 + u % 10) :: l) := by
  right
  refine ⟨by simp, ?_⟩
  have hf : full = Lib.decDigits u ++ l := by
    rcases h with ⟨rfl, h⟩ | ⟨hne, h⟩
    · rw [List.append_nil]; exact h
    · rw [h, if_neg (by rcases hgo with h | h
                        · omega
                        · exact absurd h hne)]
  rw [hf]
  by_cases h10 : u < 10
  · rw [if_pos (by omega), Lib.decDigits_one h10, Nat.mod_eq_of_lt h10]; rfl
  · rw [if_neg (by omega), dec_step u h10]; simp
theorem Whole.done {full : List UInt8} {l : List UInt8} (h : Whole full 0 l) (hne : l ≠ []) : full = l := by
  rcases h with ⟨h, _⟩ | ⟨_, h⟩
  · exact absurd h hne
  · rw [h, if_pos rfl]
theorem Whole.len {full : List UInt8} {u : Nat} {l : List UInt8} (h : Whole full u l) : l.length ≤ full.length := by
  rcases h with ⟨h, _⟩ | ⟨_, h⟩
  · rw [h]; simp
  · rw [h]; split <;> simp

def dgt (d : Int) : UInt8 := UInt8.ofNat (48 + d.toNat)
theorem conv_one (w : World) (d : Int) (h0 : 0 ≤ d) (h9 : d ≤ 9) : (convert 89 9 (.slice (some ⟨w.heap.size, 0, none⟩) 1 1)).run Tryz.prog (w.alloc (.cells #[.int .u8 (48 + d)] 5)) = .ok (.string ⟨[dgt d].toArray⟩) (w.alloc (.cells #[.int .u8 (48 + d)] 5)) := by
  refine run_convert_bytes_back (P := Tryz.prog) (w.alloc (.cells #[.int .u8 (48 + d)] 5)) 89 9 5 ⟨w.heap.size, 0, none⟩ 1 [dgt d] Tryz.underlying89 Tryz.underlying5 Tryz.underlying9 ?_
  intro j hj
  match j, hj with
  | 0, _ =>
    show (w.alloc (.cells #[.int .u8 (48 + d)] 5)).cell? _ = some (.int .u8 ((UInt8.ofNat (48 + d.toNat)).toNat : Int))
    rw [digit_nat (by omega)]
    simp [Addr.add]
    omega

theorem part_digits {r : Nat} (h : r < 1000) : (Lib.decDigits (1000 + r)).tail = [UInt8.ofNat (48 + r / 100), UInt8.ofNat (48 + r / 10 % 10), UInt8.ofNat (48 + r % 10)] := by
  rw [dec_step (1000 + r) (by omega), dec_step ((1000 + r) / 10) (by omega), dec_step ((1000 + r) / 10 / 10) (by omega), Lib.decDigits_one (by omega)]
  rw [show (1000 + r) / 10 / 10 % 10 = r / 100 by omega, show (1000 + r) / 10 % 10 = r / 10 % 10 by omega, show (1000 + r) % 10 = r % 10 by omega]
  rfl
theorem ne48 {n : Nat} (h : n < 10) (h0 : 0 < n) : UInt8.ofNat (48 + n) ≠ 48 := by
  intro e
  have := congrArg UInt8.toNat e
  rw [digit_nat h] at this
  have h2 : (48 : UInt8).toNat = 48 := rfl
  omega
theorem trim1 {a b c : UInt8} (ha : a ≠ 48) (hb : b = 48) (hc : c = 48) : Lib.trimRightB [a, b, c] 48 = [a] := by
  subst hb; subst hc
  show (List.dropWhile (· == 48) [48, 48, a]).reverse = [a]
  rw [List.dropWhile_cons_of_pos (by decide), List.dropWhile_cons_of_pos (by decide), List.dropWhile_cons_of_neg (by simpa using ha)]
  rfl
theorem trim2 {a b c : UInt8} (hb : b ≠ 48) (hc : c = 48) : Lib.trimRightB [a, b, c] 48 = [a, b] := by
  subst hc
  show (List.dropWhile (· == 48) [48, b, a]).reverse = [a, b]
  rw [List.dropWhile_cons_of_pos (by decide), List.dropWhile_cons_of_neg (by simpa using hb)]
  rfl
theorem trim3 {a b c : UInt8} (hc : c ≠ 48) : Lib.trimRightB [a, b, c] 48 = [a, b, c] := by
  show (List.dropWhile (· == 48) [c, b, a]).reverse = [a, b, c]
  rw [List.dropWhile_cons_of_neg (by simpa using hc)]
  rfl
/-- What the second loop leaves: behind one, two or three digits. -/
theorem part_one {r : Nat} (h : r < 1000) (h0 : 0 < r) (h1 : r % 100 = 0) : Lib.trimRightB (Lib.decDigits (1000 + r)).tail 48 = [UInt8.ofNat (48 + r / 100)] := by
  rw [part_digits h]
  exact trim1 (ne48 (by omega) (by omega)) (by rw [show r / 10 % 10 = 0 by omega]; rfl) (by rw [show r % 10 = 0 by omega]; rfl)
theorem part_two {r : Nat} (h : r < 1000) (h0 : 0 < r % 100) (h1 : r % 10 = 0) : Lib.trimRightB (Lib.decDigits (1000 + r)).tail 48 = [UInt8.ofNat (48 + r / 100), UInt8.ofNat (48 + r / 10 % 10)] := by
  rw [part_digits h]
  exact trim2 (ne48 (by omega) (by omega)) (by rw [h1]; rfl)
theorem part_three {r : Nat} (h : r < 1000) (h0 : 0 < r % 10) : Lib.trimRightB (Lib.decDigits (1000 + r)).tail 48 = [UInt8.ofNat (48 + r / 100), UInt8.ofNat (48 + r / 10 % 10), UInt8.ofNat (48 + r % 10)] := by
  rw [part_digits h]
  exact trim3 (ne48 (by omega) h0)

def emptyText : Value → Nat | .string x => (if x.data.size = 0 then 1 else 0) | _ => 0

set_option maxHeartbeats 1000000 in
theorem rprint_pos (x m : Int) (w : World) (HM : Hid (sat x = m)) (h0 : 0 ≤ m) (h1 : m ≤ 4611686018427387903) :
    Calls Tryz.prog 31 #[.int .i64 x] w fun e w' => e = .returned (.string ⟨(digitsOf m).toArray⟩) ∧ Below w.heap.size w w' := by
  have d1 := dec_len (m / 1000).toNat (by omega)
  have hc : ∀ wx, Calls Tryz.prog 49 #[.int .i64 x] wx fun e w' => e = .returned (.int .i64 m) ∧ w' = wx := by
    intro wx; have := rsat_any x wx; rwa [HM.out] at this
  have HC : Hid (∀ wx, Calls Tryz.prog 49 #[.int .i64 x] wx fun e w' => e = .returned (.int .i64 m) ∧ w' = wx) := hc
  clear hc
  have q0 : decide (m < 0) = false := by simp; omega
  go_enter Tryz.func31, Tryz.ntmps31
  go_wp2_with (first | (go_at_call 49; refine (HC.out _).mono ?_; rintro e w' ⟨rfl, rfl⟩) | fail)
  go_loopw [3, 4] (fun s v wr => ∃ (l : List UInt8) (u : Int), s = .string ⟨l.toArray⟩ ∧ v = .int .i64 u ∧ 0 ≤ u ∧ u ≤ 4611686018427387903 ∧ l.length ≤ 20 ∧ Hid (Whole (Lib.decDigits (m / 1000).toNat) u.toNat l) ∧ Below w'.heap.size w' wr) (fun s v _ => (intOf v).toNat + emptyText s)
  case atStart => exact ⟨[], m / 1000, rfl, rfl, by omega, by omega, by simp, .inl ⟨rfl, rfl⟩, Below.refl _ _⟩
  case round =>
    obtain ⟨l, u, rfl, rfl, u0, u1, hl, HW, hbel⟩ := hrel
    have hconv := conv_one wr (u % 10) (by omega) (by omega)
    by_cases hgo : 0 < u ∨ l = []
    · have hw2 := HW.out.next (by rcases hgo with h | h
                                  · left; omega
                                  · exact .inr h)
      have HW2 : Hid (Whole (Lib.decDigits (m / 1000).toNat) (u / 10).toNat (dgt (u % 10) :: l)) := by
        show Whole _ _ _
        unfold dgt
        rw [show (u / 10).toNat = u.toNat / 10 by omega, show (u % 10).toNat = u.toNat % 10 by omega]
        exact hw2
      have hl2 := HW2.out.len
      have hl3 : (dgt (u % 10) :: l).length ≤ 20 := by omega
      clear hw2 hl2
      by_cases hu : 0 < u
      · clear hgo
        go_wp2
        go_roundw
        case rel => exact ⟨dgt (u % 10) :: l, u / 10, by rw [bytes_one, bytes_app]; rfl, rfl, by omega, by omega, hl3, HW2, hbel.alloc hbel.size _⟩
        case measure =>
          rw [bytes_one, bytes_app]
          simp [intOf, emptyText]; omega
      · have hl0 : l = [] := by
          rcases hgo with h | h
          · exact absurd h hu
          · exact h
        subst hl0
        clear hgo
        go_wp2
        go_roundw
        case rel => exact ⟨[dgt (u % 10)], u / 10, by rw [bytes_one, show (⟨#[]⟩ : ByteArray) = ⟨[].toArray⟩ from rfl, bytes_app]; rfl, rfl, by omega, by omega, hl3, HW2, hbel.alloc hbel.size _⟩
        case measure =>
          rw [bytes_one, show (⟨#[]⟩ : ByteArray) = ⟨[].toArray⟩ from rfl, bytes_app]
          simp [intOf, emptyText]; omega
    · have hl0 : l ≠ [] := fun h => hgo (.inr h)
      have hu : ¬ 0 < u := fun h => hgo (.inl h)
      have hu0 : u = 0 := by omega
      subst hu0
      have HF : Hid (Lib.decDigits (m / 1000).toNat = l) := HW.out.done hl0
      have hemp : l.isEmpty = false := by simpa using hl0
      clear hgo hconv
      by_cases hp : 0 < m % 1000
      · have kp : (m % 1000 == 0) = false := by rw [beq_eq_false_iff_ne]; omega
        obtain ⟨R, hR⟩ : ∃ R : Nat, R = (m % 1000).toNat := ⟨_, rfl⟩
        have HR : Hid (R = (m % 1000).toNat) := hR
        have HD : Hid (digitsOf m = l ++ 46 :: Lib.trimRightB (Lib.decDigits (1000 + R)).tail 48) := by
          show _ = _
          unfold digitsOf
          rw [if_pos hp, HF.out, hR, show (1000 + m % 1000).toNat = 1000 + (m % 1000).toNat by omega]
        have R0 : 0 < R := by omega
        have R1 : R < 1000 := by omega
        clear hR
        go_wp2_with fail
        go_loopw [3, 5, 6] (fun s p un wr2 => ∃ (t : List UInt8) (r u : Int), s = .string ⟨t.toArray⟩ ∧ p = .int .i64 r ∧ un = .int .i64 u ∧ 0 ≤ r ∧ r < 1000 ∧ t.length ≤ 24 ∧ Below w'.heap.size w' wr2 ∧ Hid (u = 100 ∧ r = (R : Int) ∧ t = l ++ [46] ∨ u = 10 ∧ r = (R : Int) % 100 ∧ t = l ++ [46, UInt8.ofNat (48 + R / 100)] ∨ u = 1 ∧ r = (R : Int) % 10 ∧ 0 < R % 100 ∧ t = l ++ [46, UInt8.ofNat (48 + R / 100), UInt8.ofNat (48 + R / 10 % 10)] ∨ u = 0 ∧ r = 0 ∧ 0 < R % 10 ∧ t = l ++ [46, UInt8.ofNat (48 + R / 100), UInt8.ofNat (48 + R / 10 % 10), UInt8.ofNat (48 + R % 10)])) (fun _ _ un _ => (intOf un).toNat)
        case atStart => exact ⟨l ++ [46], m % 1000, 100, by rw [bytes_one 46, bytes_app], rfl, rfl, by omega, by omega, by simp; omega, hbel, .inl ⟨rfl, by rw [HR.out]; omega, rfl⟩⟩
        case round =>
          obtain ⟨t, r, u, rfl, rfl, rfl, r0, r1, ht, hbel2, HX⟩ := hrel
          clear hbel hemp hl0
          rcases HX.out with ⟨hu2, hr, htt⟩ | ⟨hu2, hr, htt⟩ | ⟨hu2, hr, h100, htt⟩ | ⟨hu2, hr, h10, htt⟩
          · subst hu2
            have hgo : 0 < r := by omega
            have hconv := conv_one wr (r / 100) (by omega) (by omega)
            have HN : Hid (r % 100 = (R : Int) % 100 ∧ t ++ [dgt (r / 100)] = l ++ [46, UInt8.ofNat (48 + R / 100)] ∧ t.length ≤ 21) := by
              refine ⟨by rw [hr], ?_, by rw [htt]; simp; omega⟩
              rw [htt, hr]; unfold dgt
              rw [show ((R : Int) / 100).toNat = R / 100 by omega]; simp
            clear hr htt HX
            go_wp2
            go_roundw
            case rel => exact ⟨t ++ [dgt (r / 100)], r % 100, 10, by rw [bytes_one, bytes_app], rfl, rfl, by omega, by omega, by have := HN.out.2.2; simp; omega, hbel2.alloc hbel2.size _, .inr (.inl ⟨rfl, HN.out.1, HN.out.2.1⟩)⟩
            case measure => simp [intOf]
          · subst hu2
            by_cases hgo : 0 < r
            · have hconv := conv_one wr (r / 10) (by omega) (by omega)
              have HN : Hid (r % 10 = (R : Int) % 10 ∧ 0 < R % 100 ∧ t ++ [dgt (r / 10)] = l ++ [46, UInt8.ofNat (48 + R / 100), UInt8.ofNat (48 + R / 10 % 10)] ∧ t.length ≤ 22) := by
                refine ⟨by omega, by omega, ?_, by rw [htt]; simp; omega⟩
                rw [htt, hr]; unfold dgt
                rw [show ((R : Int) % 100 / 10).toNat = R / 10 % 10 by omega]; simp
              clear hr htt HX
              go_wp2
              go_roundw
              case rel => exact ⟨t ++ [dgt (r / 10)], r % 10, 1, by rw [bytes_one, bytes_app], rfl, rfl, by omega, by omega, by have := HN.out.2.2.2; simp; omega, hbel2.alloc hbel2.size _, .inr (.inr (.inl ⟨rfl, HN.out.1, HN.out.2.1, HN.out.2.2.1⟩))⟩
              case measure => simp [intOf]
            · have HE : Hid (t = digitsOf m) := by
                show _ = _
                rw [HD.out, part_one R1 R0 (by omega), htt]
              clear hr htt HX
              go_wp2
              go_ret
              exact ⟨ret_str (by rw [HE.out]), hbel2⟩
          · subst hu2
            by_cases hgo : 0 < r
            · have r9 : r ≤ 9 := by omega
              have hconv := conv_one wr r (by omega) (by omega)
              have HN : Hid (0 < R % 10 ∧ t ++ [dgt r] = l ++ [46, UInt8.ofNat (48 + R / 100), UInt8.ofNat (48 + R / 10 % 10), UInt8.ofNat (48 + R % 10)] ∧ t.length ≤ 23) := by
                refine ⟨by omega, ?_, by rw [htt]; simp; omega⟩
                rw [htt, hr]; unfold dgt
                rw [show ((R : Int) % 10).toNat = R % 10 by omega]; simp
              clear hr htt HX h100
              go_wp2
              go_roundw
              case rel => exact ⟨t ++ [dgt r], 0, 0, by rw [bytes_one, bytes_app], rfl, rfl, by omega, by omega, by have := HN.out.2.2; simp; omega, hbel2.alloc hbel2.size _, .inr (.inr (.inr ⟨rfl, rfl, HN.out.1, HN.out.2.1⟩))⟩
              case measure => simp [intOf]
            · have HE : Hid (t = digitsOf m) := by
                show _ = _
                rw [HD.out, part_two R1 h100 (by omega), htt]
              clear hr htt HX h100
              go_wp2
              go_ret
              exact ⟨ret_str (by rw [HE.out]), hbel2⟩
          · subst hu2
            have hgo : ¬ 0 < r := by omega
            have HE : Hid (t = digitsOf m) := by
              show _ = _
              rw [HD.out, part_three R1 h10, htt]
            clear hr htt HX h10
            go_wp2
            go_ret
            exact ⟨ret_str (by rw [HE.out]), hbel2⟩
      · have kp : (m % 1000 == 0) = true := by rw [beq_iff_eq]; omega
        have HD : Hid (digitsOf m = l) := by
          show _ = _
          unfold digitsOf; rw [if_neg hp, List.append_nil]; exact HF.out
        go_wp2
        go_ret
        exact ⟨ret_str (by rw [HD.out]), hbel⟩

set_option maxHeartbeats 400000 in
theorem rprint_neg (x m : Int) (w : World) (HM : Hid (sat x = -m)) (h0 : 0 < m) (h1 : m ≤ 4611686018427387903) :
    Calls Tryz.prog 31 #[.int .i64 x] w fun e w' => e = .returned (.string ⟨(45 :: digitsOf m).toArray⟩) ∧ Below w.heap.size w w' := by
  have hc : ∀ wx, Calls Tryz.prog 49 #[.int .i64 x] wx fun e w' => e = .returned (.int .i64 (-m)) ∧ w' = wx := by
    intro wx; have := rsat_any x wx; rwa [HM.out] at this
  have HC : Hid (∀ wx, Calls Tryz.prog 49 #[.int .i64 x] wx fun e w' => e = .returned (.int .i64 (-m)) ∧ w' = wx) := hc
  clear hc
  have d1 := digits_len (m := m) (by omega) h1
  have HS : Hid (sat m = m) := (sat_in (by omega) h1).symm
  go_enter Tryz.func31, Tryz.ntmps31
  go_wp2_with (first | (go_at_call 49; refine (HC.out _).mono ?_; rintro e w' ⟨rfl, rfl⟩) | fail)
  refine (rprint_pos m m _ HS (by omega) h1).mono ?_
  rintro e w1 ⟨rfl, hb⟩
  go_wp2
  go_ret
  exact ⟨ret_str (by rw [bytes_one 45, bytes_app]; rfl), hb⟩

theorem rprint_any (x : Int) (w : World) :
    Calls Tryz.prog 31 #[.int .i64 x] w fun e w' => e = .returned (.string ⟨(printL x).toArray⟩) ∧ Below w.heap.size w w' := by
  have b1 := sat_lo x
  have b2 := sat_hi x
  unfold printL
  by_cases h : sat x < 0
  · rw [if_pos h]
    exact rprint_neg x (-sat x) w (Int.neg_neg _).symm (by omega) (by omega)
  · rw [if_neg h]
    exact rprint_pos x (sat x) w rfl (by omega) b2
end Go.Proofs.YtjhodmpgggaknaaGreatDoor.Num
