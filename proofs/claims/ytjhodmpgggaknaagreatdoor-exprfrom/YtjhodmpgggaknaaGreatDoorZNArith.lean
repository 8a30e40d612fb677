/- Contracts of Sat, Add, Sub, Mean, Sum and of the helper that sets a digit behind a number: what each returns, for any numbers; nothing in memory turns. -/
import Derived.Test.YtjhodmpgggaknaaGreatDoorRows
import Derived.Test.YtjhodmpgggaknaaGreatDoorZGD
import Derived.WalkKit
import Derived.WalkSpells
import Derived.WalkLawsBesides
namespace Go.Proofs.YtjhodmpgggaknaaGreatDoor.Num
open Go.RowKit

theorem ret_int {k : IntKind} {a b : Int} (h : a = b) : Ending.returned (.int k a) = .returned (.int k b) := by rw [h]

set_option maxHeartbeats 400000 in
theorem sat_any (x : Int) (w : World) :
    Calls Tryz.prog 52 #[.int .i64 x] w fun e w' => e = .returned (.int .i64 (sat x)) ∧ w' = w := by
  by_cases h1 : 4611686018427387903 < x
  · have H2 : Hid (4611686018427387903 = sat x) := sat_gt h1
    go_enter Tryz.func52, Tryz.ntmps52
    go_wp2
    go_ret
    exact ⟨ret_int H2.out, rfl⟩
  · by_cases h3 : x ≤ -4611686018427387903
    · have H2 : Hid (-4611686018427387903 = sat x) := sat_le h3
      go_enter Tryz.func52, Tryz.ntmps52
      go_wp2
      go_ret
      exact ⟨ret_int H2.out, rfl⟩
    · have H2 : Hid (x = sat x) := sat_in (by omega) (by omega)
      go_enter Tryz.func52, Tryz.ntmps52
      go_wp2
      go_ret
      exact ⟨ret_int H2.out, rfl⟩

def mean (s n : Int) : Int := if n < 1 then 0 else wrap64 ((sat s).tdiv n)

set_option maxHeartbeats 400000 in
theorem beh_any (n c : Int) (w : World) (hn : 0 ≤ n) (hn' : n ≤ 4611686018427387903) (hc : 48 ≤ c) (hc' : c ≤ 57) :
    Calls Tryz.prog 139 #[.int .i64 n, .int .u8 c] w fun e w' => e = .returned (.int .i64 (beh n (c - 48))) ∧ w' = w := by
  by_cases h : (4611686018427387903 - (c - 48)) / 10 < n
  · have H : Hid (4611686018427387903 = beh n (c - 48)) := beh_gt h
    go_enter Tryz.func139, Tryz.ntmps139
    go_wp2
    go_ret
    exact ⟨ret_int H.out, rfl⟩
  · have H : Hid (n * 10 + (c - 48) = beh n (c - 48)) := beh_le h
    go_enter Tryz.func139, Tryz.ntmps139
    go_wp2
    go_ret
    exact ⟨ret_int H.out, rfl⟩
end Go.Proofs.YtjhodmpgggaknaaGreatDoor.Num
