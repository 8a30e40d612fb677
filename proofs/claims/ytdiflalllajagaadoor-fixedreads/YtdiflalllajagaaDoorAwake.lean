/- The contract of the statements' own first step: the chapter's examples come out as the document says. Condition: the library's table of powers of ten lies as its text lays it. -/
import Derived.Test.YtdiflalllajagaaDoorParse
import Derived.Test.YtdiflalllajagaaDoorPrint
namespace Go.Proofs.YtdiflalllajagaaDoor
open Go.RowKit

theorem parse_is (l : List UInt8) (n e0 : Int) (w : World) (hl : l.length ≤ 100) (hn : parseN l = n) (he : parseE l = e0) :
    Calls Tryd.prog 8 #[.string ⟨l.toArray⟩] w fun e w' => e = .returned (.tuple #[.int .i64 n, .int .i64 e0]) ∧ w' = w := by
  have h := parse_any ⟨l.toArray⟩ w (by show l.toArray.size ≤ _; unfold maxLen; simp; omega)
  subst hn; subst he
  exact h

theorem dec0 : Lib.decDigits 0 = [48] := Lib.decDigits_one (by decide)
theorem dec1020 : Lib.decDigits 1020 = [49, 48, 50, 48] := by
  rw [Lib.decDigits, dif_neg (by decide), Lib.decDigits, dif_neg (by decide), Lib.decDigits, dif_neg (by decide), Lib.decDigits, dif_pos (by decide)]
  rfl
theorem print20 : printL (-20) = [45, 48, 46, 48, 50] := by
  have h : sat (-20) = -20 := by decide
  unfold printL
  rw [h, if_pos (by decide)]
  unfold digitsOf
  rw [if_pos (by decide), show ((-(-20) : Int) / 1000).toNat = 0 by decide, show (1000 + (-(-20) : Int) % 1000).toNat = 1020 by decide, dec0, dec1020]
  rfl
theorem print_is (x : Int) (l : List UInt8) (w : World) (ht : Tab w) (h : printL x = l) :
    Calls Tryd.prog 10 #[.int .i64 x] w fun e w' => e = .returned (.string ⟨l.toArray⟩) ∧ Below w.heap.size w w' := by
  subst h; exact print_any x w ht
theorem add_is (a b c : Int) (w : World) (h : sat (sat a + sat b) = c) :
    Calls Tryd.prog 14 #[.int .i64 a, .int .i64 b] w fun e w' => e = .returned (.int .i64 c) ∧ w' = w := by
  subst h; exact add_any a b w
theorem mean_is (a b c : Int) (w : World) (h : mean a b = c) :
    Calls Tryd.prog 17 #[.int .i64 a, .int .i64 b] w fun e w' => e = .returned (.int .i64 c) ∧ w' = w := by
  subst h; exact mean_any a b w
theorem sum_123 (b cap : Nat) (w : World) (h0 : w.cell? ⟨b, 0, none⟩ = some (.int .i64 1)) (h1 : w.cell? ⟨b, 1, none⟩ = some (.int .i64 2)) (h2 : w.cell? ⟨b, 2, none⟩ = some (.int .i64 3)) :
    Calls Tryd.prog 18 #[.slice (some ⟨b, 0, none⟩) 3 cap] w fun e w' => e = .returned (.int .i64 6) ∧ w' = w := by
  have h := sum_any b 0 3 cap [1, 2, 3] w (by unfold maxLen; omega) (by decide) (fun i hi => by
    match i, hi with
    | 0, _ => exact h0
    | 1, _ => exact h1
    | 2, _ => exact h2)
  exact h

theorem nines_n : parseN [57, 57, 57, 57, 57, 57, 57, 57, 57, 57, 57, 57, 57, 57, 57, 57, 57, 57, 57, 57, 57, 57, 57, 57, 57, 57, 57, 57, 57, 57] = 4611686018427387903 := by decide +kernel
theorem mean72 : mean (-7) 2 = -3 := by decide +kernel
theorem nines_e : parseE [57, 57, 57, 57, 57, 57, 57, 57, 57, 57, 57, 57, 57, 57, 57, 57, 57, 57, 57, 57, 57, 57, 57, 57, 57, 57, 57, 57, 57, 57] = 0 := by decide +kernel
theorem new_cells (w : World) (a b c : Value) (t : TypeId) : (w.alloc (.cells #[a, b, c] t)).cell? ⟨w.heap.size, 0, none⟩ = some a ∧ (w.alloc (.cells #[a, b, c] t)).cell? ⟨w.heap.size, 1, none⟩ = some b ∧ (w.alloc (.cells #[a, b, c] t)).cell? ⟨w.heap.size, 2, none⟩ = some c := by
  refine ⟨?_, ?_, ?_⟩ <;> simp

set_option maxHeartbeats 1000000 in
theorem awake_any (w : World) (ht : Tab w) :
    Calls Tryd.prog 12 #[] w fun e w' => e = .returned (.bool true) ∧ Below w.heap.size w w' := by
  go_enter Tryd.func12, Tryd.ntmps12
  go_wp2_with fail
  refine (parse_is [45, 49, 46, 53] (-1500) 0 _ (by decide) (by decide) (by decide)).mono ?_
  rintro e w1 ⟨rfl, rfl⟩
  go_wp2_with fail
  refine (parse_is [48, 48, 55, 46, 49, 48] 7100 0 _ (by decide) (by decide) (by decide)).mono ?_
  rintro e w1 ⟨rfl, rfl⟩
  go_wp2_with fail
  refine (parse_is [49, 46, 50, 51, 52, 53] 0 10 _ (by decide) (by decide) (by decide)).mono ?_
  rintro e w1 ⟨rfl, rfl⟩
  go_wp2_with fail
  refine (parse_is [46, 53] 0 10 _ (by decide) (by decide) (by decide)).mono ?_
  rintro e w1 ⟨rfl, rfl⟩
  go_wp2_with fail
  refine (parse_is [57, 57, 57, 57, 57, 57, 57, 57, 57, 57, 57, 57, 57, 57, 57, 57, 57, 57, 57, 57, 57, 57, 57, 57, 57, 57, 57, 57, 57, 57] 4611686018427387903 0 _ (by decide) nines_n nines_e).mono ?_
  rintro e w1 ⟨rfl, rfl⟩
  go_wp2_with fail
  refine (print_is (-20) [45, 48, 46, 48, 50] _ ht print20).mono ?_
  rintro e w1 ⟨rfl, hb⟩
  go_wp2_with fail
  refine (add_is 4611686018427387903 1 4611686018427387903 _ (by decide)).mono ?_
  rintro e w2 ⟨rfl, rfl⟩
  go_wp2_with fail
  refine (sum_123 _ _ _ (new_cells _ _ _ _ _).1 (new_cells _ _ _ _ _).2.1 (new_cells _ _ _ _ _).2.2).mono ?_
  rintro e w3 ⟨rfl, rfl⟩
  go_wp2_with fail
  refine (mean_is (-7) 2 (-3) _ mean72).mono ?_
  rintro e w4 ⟨rfl, rfl⟩
  go_wp2
  go_ret
  exact ⟨rfl, below_two hb ((Below.refl _ _).alloc (Nat.le_refl _) _)⟩
end Go.Proofs.YtdiflalllajagaaDoor
