/- Contracts of the saturated arithmetic: what Sat, Add, Sub and Mean of the program and of the document's answer return, for any numbers; nothing in memory turns. -/
import Derived.Test.YtdiflalllajagaaRows
import Derived.WalkKit
import Derived.WalkSpells
import Derived.WalkLawsBesides
namespace Go.Proofs.Ytdiflalllajagaa
open Go.RowKit

theorem ret_int {k : IntKind} {a b : Int} (h : a = b) : Ending.returned (.int k a) = .returned (.int k b) := by rw [h]

def sat (x : Int) : Int := if 4611686018427387903 < x then 4611686018427387903 else if x < -4611686018427387903 then -4611686018427387903 else x
theorem sat_lo (x : Int) : -4611686018427387903 ≤ sat x := by unfold sat; split <;> (try split) <;> omega
theorem sat_hi (x : Int) : sat x ≤ 4611686018427387903 := by unfold sat; split <;> (try split) <;> omega
theorem sat_gt {x : Int} (h : 4611686018427387903 < x) : 4611686018427387903 = sat x := by unfold sat; rw [if_pos h]
theorem sat_lt {x : Int} (h : x < -4611686018427387903) : -4611686018427387903 = sat x := by unfold sat; rw [if_neg (by omega), if_pos h]
theorem sat_in {x : Int} (h : -4611686018427387903 ≤ x) (h' : x ≤ 4611686018427387903) : x = sat x := by unfold sat; rw [if_neg (by omega), if_neg (by omega)]
theorem sat_le {x : Int} (h : x ≤ -4611686018427387903) : -4611686018427387903 = sat x := by
  unfold sat; rw [if_neg (by omega)]; split <;> omega

set_option maxHeartbeats 400000 in
theorem sat_any (x : Int) (w : World) :
    Calls Try.prog 6 #[.int .i64 x] w fun e w' => e = .returned (.int .i64 (sat x)) ∧ w' = w := by
  by_cases h1 : 4611686018427387903 < x
  · have h2 := sat_gt h1
    have H2 : Hid (4611686018427387903 = sat x) := h2
    clear h2
    go_enter Try.func6, Try.ntmps6
    go_wp2
    go_ret
    exact ⟨ret_int H2.out, rfl⟩
  · by_cases h3 : x ≤ -4611686018427387903
    · have H2 : Hid (-4611686018427387903 = sat x) := sat_le h3
      go_enter Try.func6, Try.ntmps6
      go_wp2
      go_ret
      exact ⟨ret_int H2.out, rfl⟩
    · have H2 : Hid (x = sat x) := sat_in (by omega) (by omega)
      go_enter Try.func6, Try.ntmps6
      go_wp2
      go_ret
      exact ⟨ret_int H2.out, rfl⟩

set_option maxHeartbeats 400000 in
theorem rsat_any (x : Int) (w : World) :
    Calls Try.prog 7 #[.int .i64 x] w fun e w' => e = .returned (.int .i64 (sat x)) ∧ w' = w := by
  by_cases h1 : 4611686018427387903 < x
  · have h2 := sat_gt h1
    have H2 : Hid (4611686018427387903 = sat x) := h2
    clear h2
    go_enter Try.func7, Try.ntmps7
    go_wp2
    go_ret
    exact ⟨ret_int H2.out, rfl⟩
  · by_cases h3 : x < -4611686018427387903
    · have H2 : Hid (-4611686018427387903 = sat x) := sat_lt h3
      go_enter Try.func7, Try.ntmps7
      go_wp2
      go_ret
      exact ⟨ret_int H2.out, rfl⟩
    · have H2 : Hid (x = sat x) := sat_in (by omega) (by omega)
      go_enter Try.func7, Try.ntmps7
      go_wp2
      go_ret
      exact ⟨ret_int H2.out, rfl⟩

set_option maxHeartbeats 400000 in
theorem add_any (a b : Int) (w : World) :
    Calls Try.prog 8 #[.int .i64 a, .int .i64 b] w fun e w' => e = .returned (.int .i64 (sat (sat a + sat b))) ∧ w' = w := by
  have b1 := sat_lo a
  have b2 := sat_hi a
  have b3 := sat_lo b
  have b4 := sat_hi b
  go_enter Try.func8, Try.ntmps8
  go_wp2_with (go_at_call 6; refine (sat_any _ _).mono ?_; rintro e w' ⟨rfl, rfl⟩)
  go_ret
  exact ⟨rfl, rfl⟩

set_option maxHeartbeats 400000 in
theorem radd_any (a b : Int) (w : World) :
    Calls Try.prog 9 #[.int .i64 a, .int .i64 b] w fun e w' => e = .returned (.int .i64 (sat (sat a + sat b))) ∧ w' = w := by
  have b1 := sat_lo a
  have b2 := sat_hi a
  have b3 := sat_lo b
  have b4 := sat_hi b
  go_enter Try.func9, Try.ntmps9
  go_wp2_with (go_at_call 7; refine (rsat_any _ _).mono ?_; rintro e w' ⟨rfl, rfl⟩)
  go_ret
  exact ⟨rfl, rfl⟩

set_option maxHeartbeats 400000 in
theorem sub_any (a b : Int) (w : World) :
    Calls Try.prog 10 #[.int .i64 a, .int .i64 b] w fun e w' => e = .returned (.int .i64 (sat (sat a - sat b))) ∧ w' = w := by
  have b1 := sat_lo a
  have b2 := sat_hi a
  have b3 := sat_lo b
  have b4 := sat_hi b
  go_enter Try.func10, Try.ntmps10
  go_wp2_with (go_at_call 6; refine (sat_any _ _).mono ?_; rintro e w' ⟨rfl, rfl⟩)
  go_ret
  exact ⟨rfl, rfl⟩

set_option maxHeartbeats 400000 in
theorem rsub_any (a b : Int) (w : World) :
    Calls Try.prog 11 #[.int .i64 a, .int .i64 b] w fun e w' => e = .returned (.int .i64 (sat (sat a - sat b))) ∧ w' = w := by
  have b1 := sat_lo a
  have b2 := sat_hi a
  have b3 := sat_lo b
  have b4 := sat_hi b
  go_enter Try.func11, Try.ntmps11
  go_wp2_with (go_at_call 7; refine (rsat_any _ _).mono ?_; rintro e w' ⟨rfl, rfl⟩)
  go_ret
  exact ⟨rfl, rfl⟩

def mean (s n : Int) : Int := if n < 1 then 0 else wrap64 ((sat s).tdiv n)

set_option maxHeartbeats 400000 in
theorem mean_any (s n : Int) (w : World) :
    Calls Try.prog 12 #[.int .i64 s, .int .i64 n] w fun e w' => e = .returned (.int .i64 (mean s n)) ∧ w' = w := by
  by_cases h : n < 1
  · have H : Hid (0 = mean s n) := by unfold mean; rw [if_pos h]; rfl
    go_enter Try.func12, Try.ntmps12
    go_wp2
    go_ret
    exact ⟨ret_int H.out, rfl⟩
  · have H : Hid (wrap64 ((sat s).tdiv n) = mean s n) := by unfold mean; rw [if_neg h]; rfl
    have hn : (n == 0) = false := by simp; omega
    go_enter Try.func12, Try.ntmps12
    go_wp2_with (go_at_call 6; refine (sat_any _ _).mono ?_; rintro e w' ⟨rfl, rfl⟩)
    go_ret
    exact ⟨ret_int H.out, rfl⟩

set_option maxHeartbeats 400000 in
theorem rmean_any (s n : Int) (w : World) :
    Calls Try.prog 13 #[.int .i64 s, .int .i64 n] w fun e w' => e = .returned (.int .i64 (mean s n)) ∧ w' = w := by
  by_cases h : n < 1
  · have H : Hid (0 = mean s n) := by unfold mean; rw [if_pos h]; rfl
    go_enter Try.func13, Try.ntmps13
    go_wp2
    go_ret
    exact ⟨ret_int H.out, rfl⟩
  · have H : Hid (wrap64 ((sat s).tdiv n) = mean s n) := by unfold mean; rw [if_neg h]; rfl
    have hn : (n == 0) = false := by simp; omega
    go_enter Try.func13, Try.ntmps13
    go_wp2_with (go_at_call 7; refine (rsat_any _ _).mono ?_; rintro e w' ⟨rfl, rfl⟩)
    go_ret
    exact ⟨ret_int H.out, rfl⟩
end Go.Proofs.Ytdiflalllajagaa
