import Derived.Test.YtjhodmpgggaknaaGreatDoorZNArith
import Derived.Test.YtjhodmpgggaknaaGreatDoorZShelf
import Derived.WalkMore
/- The contract of Parse: for any string it returns the number and the error that the plain functions say; nothing in memory turns. -/
namespace Go.Proofs.YtjhodmpgggaknaaGreatDoor.Num
open Go.RowKit

theorem ret_two {k k' : IntKind} {a b c d : Int} (h : a = b) (h' : c = d) : Ending.returned (.tuple #[.int k a, .int k' c]) = .returned (.tuple #[.int k b, .int k' d]) := by rw [h, h']
theorem c46 {c : UInt8} (h : c = 46) : ((c.toNat : Int) == 46) = true := by subst h; rfl
theorem c46' {c : UInt8} (h : ¬ c = 46) : ((c.toNat : Int) == 46) = false := by
  rw [beq_eq_false_iff_ne]
  intro e
  exact h (UInt8.toNat_inj.1 (by have : c.toNat = 46 := by omega
                                 rw [this]; rfl))
end Go.Proofs.YtjhodmpgggaknaaGreatDoor.Num
