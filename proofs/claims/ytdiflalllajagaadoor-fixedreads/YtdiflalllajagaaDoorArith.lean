/- Contracts of Sat, Add, Sub, Mean, Sum and of the helper that sets a digit behind a number: what each returns, for any numbers; nothing in memory turns. -/
import Derived.Test.YtdiflalllajagaaDoorRows
import Derived.Test.YtdiflalllajagaaDoorPlain
import Derived.WalkKit
import Derived.WalkSpells
import Derived.WalkLawsBesides
namespace Go.Proofs.YtdiflalllajagaaDoor
open Go.RowKit

theorem ret_int {k : IntKind} {a b : Int} (h : a = b) : Ending.returned (.int k a) = .returned (.int k b) := by rw [h]

set_option maxHeartbeats 400000 in
theorem sat_any (x : Int) (w : World) :
    Calls Tryd.prog 13 #[.int .i64 x] w fun e w' => e = .returned (.int .i64 (sat x)) ∧ w' = w := by
  by_cases h1 : 4611686018427387903 < x
  · have H2 : Hid (4611686018427387903 = sat x) := sat_gt h1
    go_enter Tryd.func13, Tryd.ntmps13
    go_wp2
    go_ret
    exact ⟨ret_int H2.out, rfl⟩
  · by_cases h3 : x ≤ -4611686018427387903
    · have H2 : Hid (-4611686018427387903 = sat x) := sat_le h3
      go_enter Tryd.func13, Tryd.ntmps13
      go_wp2
      go_ret
      exact ⟨ret_int H2.out, rfl⟩
    · have H2 : Hid (x = sat x) := sat_in (by omega) (by omega)
      go_enter Tryd.func13, Tryd.ntmps13
      go_wp2
      go_ret
      exact ⟨ret_int H2.out, rfl⟩

set_option maxHeartbeats 400000 in
theorem add_any (a b : Int) (w : World) :
    Calls Tryd.prog 14 #[.int .i64 a, .int .i64 b] w fun e w' => e = .returned (.int .i64 (sat (sat a + sat b))) ∧ w' = w := by
  have b1 := sat_lo a
  have b2 := sat_hi a
  have b3 := sat_lo b
  have b4 := sat_hi b
  go_enter Tryd.func14, Tryd.ntmps14
  go_wp2_with (go_at_call 13; refine (sat_any _ _).mono ?_; rintro e w' ⟨rfl, rfl⟩)
  go_ret
  exact ⟨rfl, rfl⟩

set_option maxHeartbeats 400000 in
theorem sub_any (a b : Int) (w : World) :
    Calls Tryd.prog 15 #[.int .i64 a, .int .i64 b] w fun e w' => e = .returned (.int .i64 (sat (sat a - sat b))) ∧ w' = w := by
  have b1 := sat_lo a
  have b2 := sat_hi a
  have b3 := sat_lo b
  have b4 := sat_hi b
  go_enter Tryd.func15, Tryd.ntmps15
  go_wp2_with (go_at_call 13; refine (sat_any _ _).mono ?_; rintro e w' ⟨rfl, rfl⟩)
  go_ret
  exact ⟨rfl, rfl⟩

def mean (s n : Int) : Int := if n < 1 then 0 else wrap64 ((sat s).tdiv n)

set_option maxHeartbeats 400000 in
theorem mean_any (s n : Int) (w : World) :
    Calls Tryd.prog 17 #[.int .i64 s, .int .i64 n] w fun e w' => e = .returned (.int .i64 (mean s n)) ∧ w' = w := by
  by_cases h : n < 1
  · have H : Hid (0 = mean s n) := by unfold mean; rw [if_pos h]; rfl
    go_enter Tryd.func17, Tryd.ntmps17
    go_wp2
    go_ret
    exact ⟨ret_int H.out, rfl⟩
  · have H : Hid (wrap64 ((sat s).tdiv n) = mean s n) := by unfold mean; rw [if_neg h]; rfl
    have hn : (n == 0) = false := by simp; omega
    go_enter Tryd.func17, Tryd.ntmps17
    go_wp2_with (go_at_call 13; refine (sat_any _ _).mono ?_; rintro e w' ⟨rfl, rfl⟩)
    go_ret
    exact ⟨ret_int H.out, rfl⟩

set_option maxHeartbeats 400000 in
theorem sum_none (a : Option Addr) (cap : Nat) (w : World) :
    Calls Tryd.prog 18 #[.slice a 0 cap] w fun e w' => e = .returned (.int .i64 0) ∧ w' = w := by
  go_enter Tryd.func18, Tryd.ntmps18
  go_wp2
  go_loop [3, 8] (fun s i => s = .int .i64 0 ∧ i = .int .i64 0) (fun _ _ => 0)
  case atStart => exact ⟨rfl, rfl⟩
  case round =>
    obtain ⟨rfl, rfl⟩ := hrel
    go_wp2
    go_ret
    exact ⟨rfl, rfl⟩

set_option maxHeartbeats 400000 in
theorem sum_any (b off len cap : Nat) (zs : List Int) (w : World) (hm : len ≤ maxLen) (hz : len ≤ zs.length)
    (hc : ∀ i, i < len → w.cell? ⟨b, off + i, none⟩ = some (.int .i64 (zs.getD i 0))) :
    Calls Tryd.prog 18 #[.slice (some ⟨b, off, none⟩) len cap] w fun e w' => e = .returned (.int .i64 (sumOf (zs.take len))) ∧ w' = w := by
  unfold maxLen at hm
  have HC : Hid (∀ i, i < len → w.cell? ⟨b, off + i, none⟩ = some (.int .i64 (zs.getD i 0))) := hc
  clear hc
  go_enter Tryd.func18, Tryd.ntmps18
  go_wp2
  go_loop [3, 8] (fun s i => ∃ k : Nat, k ≤ len ∧ i = .int .i64 k ∧ s = .int .i64 (sumOf (zs.take k))) (fun _ i => len - (intOf i).toNat)
  case atStart => exact ⟨0, Nat.zero_le _, rfl, rfl⟩
  case round =>
    obtain ⟨k, hk, rfl, rfl⟩ := hrel
    by_cases hlt : k < len
    · have hcell := HC.out k hlt
      have HS : Hid (sumOf (zs.take (k + 1)) = sat (sat (sumOf (zs.take k)) + sat (zs.getD k 0))) := by
        rw [take_next zs k (by omega), sumOf_snoc]; exact rfl
      go_wp2_with (go_at_call 14; refine (add_any _ _ _).mono ?_; rintro e w' ⟨rfl, rfl⟩)
      go_round
      case rel => exact ⟨k + 1, by omega, by go_num, by rw [HS.out]; simp⟩
      case measure => simp [intOf]; omega
    · have hkl : k = len := by omega
      subst hkl
      go_wp2
      go_ret
      exact ⟨rfl, rfl⟩

set_option maxHeartbeats 400000 in
theorem beh_any (n c : Int) (w : World) (hn : 0 ≤ n) (hn' : n ≤ 4611686018427387903) (hc : 48 ≤ c) (hc' : c ≤ 57) :
    Calls Tryd.prog 20 #[.int .i64 n, .int .u8 c] w fun e w' => e = .returned (.int .i64 (beh n (c - 48))) ∧ w' = w := by
  by_cases h : (4611686018427387903 - (c - 48)) / 10 < n
  · have H : Hid (4611686018427387903 = beh n (c - 48)) := beh_gt h
    go_enter Tryd.func20, Tryd.ntmps20
    go_wp2
    go_ret
    exact ⟨ret_int H.out, rfl⟩
  · have H : Hid (n * 10 + (c - 48) = beh n (c - 48)) := beh_le h
    go_enter Tryd.func20, Tryd.ntmps20
    go_wp2
    go_ret
    exact ⟨ret_int H.out, rfl⟩
end Go.Proofs.YtdiflalllajagaaDoor
