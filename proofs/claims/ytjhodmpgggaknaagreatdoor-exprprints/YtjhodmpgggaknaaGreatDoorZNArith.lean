import Derived.Test.YtjhodmpgggaknaaGreatDoorRows
import Derived.Test.YtjhodmpgggaknaaGreatDoorZGD
import Derived.WalkKit
import Derived.WalkSpells
import Derived.WalkLawsBesides
/- Contracts of Sat, Add, Sub, Mean, Sum and of the helper that sets a digit behind a number: what each returns, for any numbers; nothing in memory turns. -/
namespace Go.Proofs.YtjhodmpgggaknaaGreatDoor.Num
open Go.RowKit

theorem ret_int {k : IntKind} {a b : Int} (h : a = b) : Ending.returned (.int k a) = .returned (.int k b) := by rw [h]

set_option maxHeartbeats 400000 in
theorem sat_any (x : Int) (w : World) :
    Calls Tryz.prog 52 #[.int .i64 x] w fun e w' => e = .returned (.int .i64 (sat x)) ∧ w' = w := by
  by_cases h1 : 4611686018427387903 < x
  · have H2 : Hid (4611686018427387903 = sat x) := sat_gt h1
    go_enter Tryz.func52, Tryz.ntmps52
    go_wp2
    go_ret
    exact ⟨ret_int H2.out, rfl⟩
  · by_cases h3 : x ≤ -4611686018427387903
    · have H2 : Hid (-4611686018427387903 = sat x) := sat_le h3
      go_enter Tryz.func52, Tryz.ntmps52
      go_wp2
      go_ret
      exact ⟨ret_int H2.out, rfl⟩
    · have H2 : Hid (x = sat x) := sat_in (by omega) (by omega)
      go_enter Tryz.func52, Tryz.ntmps52
      go_wp2
      go_ret
      exact ⟨ret_int H2.out, rfl⟩

end Go.Proofs.YtjhodmpgggaknaaGreatDoor.Num
