/- Contracts of the program's products: timesX, times, overBytes, Join. -/
import Derived.Test.YtfakplbgheljbaaRows
import Derived.Test.YtfakplbgheljbaaPlain
import Derived.WalkKit
import Derived.WalkSpells
import Derived.WalkLawsBesides
import Derived.Laws.BitsLemmas
namespace Go.Proofs.Ytfakplbgheljbaa
open Go.RowKit

theorem ret_int {k : IntKind} {a b : Int} (h : a = b) : Ending.returned (.int k a) = .returned (.int k b) := by rw [h]

theorem bits_u32 (op : BinOp) (f : R → R → R) (h : ∀ a b : Int, bits op .u32 a b = IntKind.u32.wrap ((f (BitVec.ofInt 32 a) (BitVec.ofInt 32 b)).toNat : Int)) (x y : R) :
    bits op .u32 (x.toNat : Int) (y.toNat : Int) = ((f x y).toNat : Int) := by
  rw [h, BitVec.ofInt_natCast, BitVec.ofInt_natCast, BitVec.ofNat_toNat, BitVec.ofNat_toNat, IntKind.wrap_u32']
  have := (f x y).isLt
  simp only [BitVec.setWidth_eq]
  omega
theorem bx (x y : R) : bits .xor .u32 (x.toNat : Int) (y.toNat : Int) = ((x ^^^ y).toNat : Int) := bits_u32 .xor (fun a b => a ^^^ b) (fun _ _ => rfl) x y
theorem ba (x y : R) : bits .and .u32 (x.toNat : Int) (y.toNat : Int) = ((x &&& y).toNat : Int) := bits_u32 .and (fun a b => a &&& b) (fun _ _ => rfl) x y
theorem b1 : (1 : Int) = ((1#32).toNat : Int) := rfl
theorem b0 : (0 : Int) = ((0#32).toNat : Int) := rfl
theorem bdv : (2197175160 : Int) = (dv.toNat : Int) := rfl
theorem bunit : (2147483648 : Int) = (unit.toNat : Int) := rfl
theorem bshl (x : R) : (x.toNat : Int) * (2 : Int) % (4294967296 : Int) = ((x <<< 1).toNat : Int) := by
  rw [BitVec.toNat_shiftLeft, Nat.shiftLeft_eq]; omega
theorem btop (x : R) : (bits .and .u32 (x.toNat : Int) 2147483648 != 0) = x.getLsbD 31 := by
  rw [bunit, ba]
  have h1 : x &&& unit = if x.getLsbD 31 then unit else 0#32 := by
    apply BitVec.eq_of_getLsbD_eq
    intro i hi
    rw [BitVec.getLsbD_and, show unit = pw 31 by decide +kernel, pw_bit _ _ (by omega)]
    by_cases e : 31 = i
    · subst e; cases h : x.getLsbD 31
      · simp
      · rw [if_pos rfl, pw_bit _ _ (by omega)]; rfl
    · cases h : x.getLsbD 31 <;> simp [e, pw_bit]
  rw [h1]
  cases x.getLsbD 31 <;> decide +kernel
theorem bhalf (x : R) : (x.toNat : Int) / (2 : Int) = ((x >>> 1).toNat : Int) := by
  rw [BitVec.toNat_ushiftRight, Nat.shiftRight_eq_div_pow]; omega
theorem bneg (x : R) : -(x.toNat : Int) % 4294967296 = ((-x).toNat : Int) := by
  rw [BitVec.toNat_neg]; have := x.isLt; omega
theorem tx_form (x : R) : (x >>> 1) ^^^ (dv &&& -(x &&& 1#32)) = tx x := by
  unfold tx
  congr 1
  have h1 : x &&& 1#32 = if x.getLsbD 0 then 1#32 else 0#32 := by
    apply BitVec.eq_of_getLsbD_eq
    intro i hi
    rw [BitVec.getLsbD_and]
    by_cases e : i = 0
    · subst e; cases h : x.getLsbD 0 <;> simp
    · cases h : x.getLsbD 0 <;> simp [e]
  rw [h1]
  cases x.getLsbD 0 <;> decide +kernel

set_option maxHeartbeats 400000 in
theorem tx_any (x : R) (w : World) :
    Calls Try.prog 20 #[.int .u32 (x.toNat : Int)] w fun e w' => e = .returned (.int .u32 ((tx x).toNat : Int)) ∧ w' = w := by
  have hx := x.isLt
  go_enter Try.func20, Try.ntmps20
  go_wp2
  go_ret
  refine ⟨ret_int ?_, rfl⟩
  rw [← tx_form, bhalf, b1, ba, bneg, bdv, ba, bx]

theorem mulL_zero (a b p : R) : mulL 0 a b p = p := rfl
theorem mulL_succ (n : Nat) (a b p : R) : mulL (n + 1) a b p = mulL n (tx a) (b <<< 1) (if b.getLsbD 31 then p ^^^ a else p) := rfl

set_option maxHeartbeats 1000000 in
theorem mul_any (x y : R) (w : World) :
    Calls Try.prog 21 #[.int .u32 (x.toNat : Int), .int .u32 (y.toNat : Int)] w fun e w' => e = .returned (.int .u32 ((mul x y).toNat : Int)) ∧ w' = w := by
  go_enter Try.func21, Try.ntmps21
  go_wp2
  go_loop [0, 1, 5, 6] (fun a b p i => ∃ (k : Nat) (a' b' p' : R), k ≤ 32 ∧ i = .int .i64 k ∧ a = .int .u32 (a'.toNat : Int) ∧ b = .int .u32 (b'.toNat : Int) ∧ p = .int .u32 (p'.toNat : Int) ∧ mulL (32 - k) a' b' p' = mul x y) (fun _ _ _ i => 32 - (intOf i).toNat)
  case atStart => exact ⟨0, x, y, 0#32, by omega, rfl, rfl, rfl, rfl, rfl⟩
  case round =>
    obtain ⟨k, a', b', p', hk, rfl, rfl, rfl, rfl, hm⟩ := hrel
    have hb := b'.isLt
    have H : Hid (mulL (32 - k) a' b' p' = mul x y) := hm
    clear hm
    by_cases hlt : k < 32
    · have hlt' : (k : Int) < 32 := by omega
      have H1 : Hid (mulL (32 - (k + 1)) (tx a') (b' <<< 1) (if b'.getLsbD 31 then p' ^^^ a' else p') = mul x y) := by
        have := H.out
        rw [show 32 - k = (32 - (k + 1)) + 1 by omega, mulL_succ] at this
        exact this
      clear H
      have hbt := btop b'
      cases hbb : b'.getLsbD 31
      all_goals
        rw [hbb] at hbt
        have HB : Hid (b'.getLsbD 31 = _) := hbb
        clear hbb
        go_wp2_with (go_at_call 20; refine (tx_any _ _).mono ?_; rintro e w' ⟨rfl, rfl⟩)
        go_round
        case rel => exact ⟨k + 1, _, b' <<< 1, _, by omega, by go_num, rfl, congrArg (Value.int .u32) (bshl b'), by first | rfl | exact congrArg (Value.int .u32) (bx p' a'), by have := H1.out; rw [HB.out] at this; exact this⟩
        case measure => simp [intOf]; omega
    · have hlt' : ¬ (k : Int) < 32 := by omega
      go_wp2
      go_ret
      obtain rfl : k = 32 := by omega
      exact ⟨ret_int (by rw [← H.out]; rfl), rfl⟩
theorem ov_next (N n e k : Nat) (h : e + k * n = 8 * N) : (if n % 2 = 1 then e + k else e) + (k + k) * (n / 2) = 8 * N := by
  rw [← h]
  have h1 : n = 2 * (n / 2) + n % 2 := by omega
  have h2 : k * n = (k + k) * (n / 2) + k * (n % 2) := by
    conv => lhs; rw [h1]
    rw [Nat.mul_add, ← Nat.two_mul, Nat.mul_comm 2 k, Nat.mul_assoc]
  rw [h2]
  rcases Nat.mod_two_eq_zero_or_one n with h | h <;> rw [h] <;> simp <;> omega

theorem i64_and1 (n : Int) : bits .and .i64 n 1 = n % 2 := by
  have h1 : (BitVec.ofInt 64 1).toNat = 2 ^ 1 - 1 := by decide
  have key : (BitVec.ofInt 64 n &&& BitVec.ofInt 64 1).toNat = (n % ((2 ^ 64 : Nat) : Int)).toNat % 2 ^ 1 := by
    rw [BitVec.toNat_and, BitVec.toNat_ofInt, h1, Nat.and_two_pow_sub_one_eq_mod]
  show IntKind.i64.wrap ((BitVec.ofInt 64 n &&& BitVec.ofInt 64 1).toNat : Nat) = n % 2
  rw [key, IntKind.wrap_i64]
  omega

set_option maxHeartbeats 1000000 in
theorem over_any (N : Nat) (w : World) (hN : N < 9223372036854775808) :
    Calls Try.prog 22 #[.int .i64 (N : Int)] w fun e w' => e = .returned (.int .u32 ((xp (8 * N)).toNat : Int)) ∧ w' = w := by
  go_enter Try.func22, Try.ntmps22
  go_wp2
  go_loop [0, 3, 4] (fun m p s => ∃ (n e k : Nat), n < 9223372036854775808 ∧ m = .int .i64 (n : Int) ∧ p = .int .u32 ((xp e).toNat : Int) ∧ s = .int .u32 ((xp k).toNat : Int) ∧ e + k * n = 8 * N) (fun m _ _ => (intOf m).toNat)
  case atStart => exact ⟨N, 0, 8, hN, rfl, rfl, by rw [xp_octet]; rfl, by omega⟩
  case round =>
    obtain ⟨n, e, k, hn, rfl, rfl, rfl, hm⟩ := hrel
    have H : Hid (e + k * n = 8 * N) := hm
    clear hm
    by_cases hlt : 0 < n
    · have hlt' : (0 : Int) < (n : Int) := by omega
      have H1 := ov_next N n e k H.out
      clear H
      have h2 : ((n / 2 : Nat) : Int) = (n : Int) / 2 := by omega
      have H2 : Hid (((n / 2 : Nat) : Int) = (n : Int) / 2) := h2
      clear h2
      by_cases hb : n % 2 = 1
      · rw [if_pos hb] at H1
        have ht : (bits .and .i64 (n : Int) 1 == 1) = true := by rw [i64_and1]; simp; omega
        have H3 : Hid (e + k + (k + k) * (n / 2) = 8 * N) := H1
        clear H1 hb
        go_wp2_with (go_at_call 21; refine (mul_any _ _ _).mono ?_; rintro e w' ⟨rfl, rfl⟩)
        go_round
        case rel => exact ⟨n / 2, e + k, k + k, by omega, congrArg (Value.int .i64) H2.out.symm, by rw [xp_mul], by rw [xp_mul], H3.out⟩
        case measure => simp [intOf]; omega
      · rw [if_neg hb] at H1
        have ht : (bits .and .i64 (n : Int) 1 == 1) = false := by rw [i64_and1]; simp; omega
        have H3 : Hid (e + (k + k) * (n / 2) = 8 * N) := H1
        clear H1 hb
        go_wp2_with (go_at_call 21; refine (mul_any _ _ _).mono ?_; rintro e w' ⟨rfl, rfl⟩)
        go_round
        case rel => exact ⟨n / 2, e, k + k, by omega, congrArg (Value.int .i64) H2.out.symm, rfl, by rw [xp_mul], H3.out⟩
        case measure => simp [intOf]; omega
    · obtain rfl : n = 0 := by omega
      go_wp2
      go_ret
      exact ⟨ret_int (by rw [← H.out]; rfl), rfl⟩

set_option maxHeartbeats 1000000 in
theorem join_any (a b : R) (N : Nat) (w : World) (hN : N < 9223372036854775808) :
    Calls Try.prog 14 #[.int .u32 (a.toNat : Int), .int .u32 (b.toNat : Int), .int .i64 (N : Int)] w fun e w' => e = .returned (.int .u32 ((txn (8 * N) a ^^^ b).toNat : Int)) ∧ w' = w := by
  go_enter Try.func14, Try.ntmps14
  go_wp2_with (first | (go_at_call 22; refine (over_any _ _ hN).mono ?_; rintro e w' ⟨rfl, rfl⟩) | (go_at_call 21; refine (mul_any _ _ _).mono ?_; rintro e w' ⟨rfl, rfl⟩))
  go_ret
  exact ⟨ret_int (by rw [mul_xp, bx]), rfl⟩

set_option maxHeartbeats 1000000 in
theorem join_neg (a b : R) (n : Int) (w : World) (hn : n < 0) :
    Calls Try.prog 14 #[.int .u32 (a.toNat : Int), .int .u32 (b.toNat : Int), .int .i64 n] w fun e w' => e = .returned (.int .u32 0) ∧ w' = w := by
  go_enter Try.func14, Try.ntmps14
  go_wp2
  go_ret
  exact ⟨rfl, rfl⟩
end Go.Proofs.Ytfakplbgheljbaa
