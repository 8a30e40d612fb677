/- The contract of the statements' own test whether a number is within the bounds. -/
import Derived.Test.YtdiflalllajagaaDoorArith
namespace Go.Proofs.YtdiflalllajagaaDoor
open Go.RowKit

def inB (x : Int) : Bool := decide (-4611686018427387903 ≤ x) && decide (x ≤ 4611686018427387903)
theorem inB_yes {x : Int} (h : -4611686018427387903 ≤ x) (h' : x ≤ 4611686018427387903) : inB x = true := by simp [inB, h, h']
theorem inB_no {x : Int} (h : ¬ (-4611686018427387903 ≤ x ∧ x ≤ 4611686018427387903)) : inB x = false := by
  unfold inB
  by_cases h1 : -4611686018427387903 ≤ x
  · have h2 : ¬ x ≤ 4611686018427387903 := fun h3 => h ⟨h1, h3⟩
    simp [h1, h2]
  · simp [h1]
theorem ret_bool {a b : Bool} (h : a = b) : Ending.returned (.bool a) = .returned (.bool b) := by rw [h]

set_option maxHeartbeats 400000 in
theorem within_any (x : Int) (w : World) :
    Calls Tryd.prog 16 #[.int .i64 x] w fun e w' => e = .returned (.bool (inB x)) ∧ w' = w := by
  by_cases h1 : -4611686018427387903 ≤ x
  · by_cases h2 : x ≤ 4611686018427387903
    · have H : Hid (true = inB x) := (inB_yes h1 h2).symm
      go_enter Tryd.func16, Tryd.ntmps16
      go_wp2
      go_ret
      exact ⟨ret_bool H.out, rfl⟩
    · have H : Hid (false = inB x) := (inB_no (fun h => h2 h.2)).symm
      go_enter Tryd.func16, Tryd.ntmps16
      go_wp2
      go_ret
      exact ⟨ret_bool H.out, rfl⟩
  · have H : Hid (false = inB x) := (inB_no (fun h => h1 h.1)).symm
    go_enter Tryd.func16, Tryd.ntmps16
    go_wp2
    go_ret
    exact ⟨ret_bool H.out, rfl⟩
theorem within_yes (x : Int) (w : World) (h : -4611686018427387903 ≤ x) (h' : x ≤ 4611686018427387903) :
    Calls Tryd.prog 16 #[.int .i64 x] w fun e w' => e = .returned (.bool true) ∧ w' = w := by
  have := within_any x w
  rwa [inB_yes h h'] at this
end Go.Proofs.YtdiflalllajagaaDoor
