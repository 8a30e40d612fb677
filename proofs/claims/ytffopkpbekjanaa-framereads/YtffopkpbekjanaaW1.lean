/- The contract of the program's timesX. -/
import Derived.Test.YtffopkpbekjanaaRows
import Derived.Test.YtffopkpbekjanaaPlain
import Derived.WalkKit
import Derived.WalkSpells
import Derived.WalkLawsBesides
import Derived.Laws.BitsLemmas
namespace Go.Proofs.Ytffopkpbekjanaa
open Go.RowKit

theorem ret_int {k : IntKind} {a b : Int} (h : a = b) : Ending.returned (.int k a) = .returned (.int k b) := by rw [h]

theorem bits_u32 (op : BinOp) (f : R → R → R) (h : ∀ a b : Int, bits op .u32 a b = IntKind.u32.wrap ((f (BitVec.ofInt 32 a) (BitVec.ofInt 32 b)).toNat : Int)) (x y : R) :
    bits op .u32 (x.toNat : Int) (y.toNat : Int) = ((f x y).toNat : Int) := by
  rw [h, BitVec.ofInt_natCast, BitVec.ofInt_natCast, BitVec.ofNat_toNat, BitVec.ofNat_toNat, IntKind.wrap_u32']
  have := (f x y).isLt
  simp only [BitVec.setWidth_eq]
  omega
theorem bx (x y : R) : bits .xor .u32 (x.toNat : Int) (y.toNat : Int) = ((x ^^^ y).toNat : Int) := bits_u32 .xor (fun a b => a ^^^ b) (fun _ _ => rfl) x y
theorem ba (x y : R) : bits .and .u32 (x.toNat : Int) (y.toNat : Int) = ((x &&& y).toNat : Int) := bits_u32 .and (fun a b => a &&& b) (fun _ _ => rfl) x y
theorem b1 : (1 : Int) = ((1#32).toNat : Int) := rfl
theorem b0 : (0 : Int) = ((0#32).toNat : Int) := rfl
theorem bdv : (2197175160 : Int) = (dv.toNat : Int) := rfl
theorem bunit : (2147483648 : Int) = (unit.toNat : Int) := rfl
theorem bshl (x : R) : (x.toNat : Int) * (2 : Int) % (4294967296 : Int) = ((x <<< 1).toNat : Int) := by
  rw [BitVec.toNat_shiftLeft, Nat.shiftLeft_eq]; omega
theorem btop (x : R) : (bits .and .u32 (x.toNat : Int) 2147483648 != 0) = x.getLsbD 31 := by
  rw [bunit, ba]
  have h1 : x &&& unit = if x.getLsbD 31 then unit else 0#32 := by
    apply BitVec.eq_of_getLsbD_eq
    intro i hi
    rw [BitVec.getLsbD_and, show unit = pw 31 by decide +kernel, pw_bit _ _ (by omega)]
    by_cases e : 31 = i
    · subst e; cases h : x.getLsbD 31
      · simp
      · rw [if_pos rfl, pw_bit _ _ (by omega)]; rfl
    · cases h : x.getLsbD 31 <;> simp [e, pw_bit]
  rw [h1]
  cases x.getLsbD 31 <;> decide +kernel
theorem bhalf (x : R) : (x.toNat : Int) / (2 : Int) = ((x >>> 1).toNat : Int) := by
  rw [BitVec.toNat_ushiftRight, Nat.shiftRight_eq_div_pow]; omega
theorem bneg (x : R) : -(x.toNat : Int) % 4294967296 = ((-x).toNat : Int) := by
  rw [BitVec.toNat_neg]; have := x.isLt; omega
theorem tx_form (x : R) : (x >>> 1) ^^^ (dv &&& -(x &&& 1#32)) = tx x := by
  unfold tx
  congr 1
  have h1 : x &&& 1#32 = if x.getLsbD 0 then 1#32 else 0#32 := by
    apply BitVec.eq_of_getLsbD_eq
    intro i hi
    rw [BitVec.getLsbD_and]
    by_cases e : i = 0
    · subst e; cases h : x.getLsbD 0 <;> simp
    · cases h : x.getLsbD 0 <;> simp [e]
  rw [h1]
  cases x.getLsbD 0 <;> decide +kernel

set_option maxHeartbeats 400000 in
theorem tx_any (x : R) (w : World) :
    Calls Try.prog 39 #[.int .u32 (x.toNat : Int)] w fun e w' => e = .returned (.int .u32 ((tx x).toNat : Int)) ∧ w' = w := by
  have hx := x.isLt
  go_enter Try.func39, Try.ntmps39
  go_wp2
  go_ret
  refine ⟨ret_int ?_, rfl⟩
  rw [← tx_form, bhalf, b1, ba, bneg, bdv, ba, bx]

end Go.Proofs.Ytffopkpbekjanaa
