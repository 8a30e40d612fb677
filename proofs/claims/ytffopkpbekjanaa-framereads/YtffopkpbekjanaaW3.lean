/- Contracts of the document's answers: Up, powers, number. -/
import Derived.Test.YtffopkpbekjanaaW2
namespace Go.Proofs.Ytffopkpbekjanaa
open Go.RowKit

theorem odd_bit (x : R) : ((x.toNat : Int) % 2 == 1) = x.getLsbD 0 := by
  have h : x.getLsbD 0 = decide (x.toNat % 2 = 1) := by simp [BitVec.getLsbD]
  rw [h, Bool.eq_iff_iff]; simp; omega

set_option maxHeartbeats 1000000 in
theorem up_any (x : R) (w : World) :
    Calls Try.prog 35 #[.int .u32 (x.toNat : Int), .int .u32 (dv.toNat : Int)] w fun e w' => e = .returned (.int .u32 ((tx x).toNat : Int)) ∧ w' = w := by
  have hx := x.isLt
  have ht := odd_bit x
  have hb := bhalf x
  have HB := hid hb
  clear hb
  cases hc : x.getLsbD 0
  · rw [hc] at ht
    have HT : Hid (tx x = x >>> 1) := tx_even x hc
    clear hc
    go_enter Try.func35, Try.ntmps35
    go_wp2
    go_ret
    refine ⟨ret_int ?_, rfl⟩
    rw [HT.out, ← HB.out]
  · rw [hc] at ht
    have HT : Hid (tx x = (x >>> 1) ^^^ dv) := by unfold Hid tx; rw [hc]; rfl
    clear hc
    go_enter Try.func35, Try.ntmps35
    go_wp2
    go_ret
    refine ⟨ret_int ?_, rfl⟩
    rw [HT.out, HB.out, bx]

def pws : List Int := [28, 27, 26, 25, 23, 22, 20, 19, 18, 14, 13, 11, 10, 9, 8, 6, 0]
def numb (l : List Int) : Int := l.foldl (fun n p => (n + 2 ^ (31 - p).toNat) % 4294967296) 0
theorem numb_pws : numb pws = (dv.toNat : Int) := by decide +kernel
theorem numb_snoc (l : List Int) (p : Int) : numb (l ++ [p]) = (numb l + 2 ^ (31 - p).toNat) % 4294967296 := by unfold numb; rw [List.foldl_append]; rfl
theorem numb_lo (l : List Int) : ∀ k, 0 ≤ numb (l.take k) ∧ numb (l.take k) < 4294967296 := by
  intro k
  induction k with
  | zero => simp [numb]
  | succ k ih =>
    by_cases h : k < l.length
    · rw [take_snoc l k h, numb_snoc]; omega
    · rw [List.take_of_length_le (by omega)]; rw [List.take_of_length_le (by omega)] at ih; exact ih

set_option maxHeartbeats 1000000 in
theorem powers_any (w : World) :
    Calls Try.prog 34 #[] w fun e w' => e = .returned (.slice (some ⟨w.heap.size, 0, none⟩) 17 17) ∧ w' = w.alloc (.cells (pws.map (Value.int .i64)).toArray 3) := by
  go_enter Try.func34, Try.ntmps34
  go_wp2
  go_ret
  exact ⟨rfl, rfl⟩

theorem pws_cell (w : World) (t : TypeId) (i : Nat) (h : i < 17) : (w.alloc (.cells (pws.map (Value.int .i64)).toArray t)).cell? ⟨w.heap.size, 0 + i, none⟩ = some (.int .i64 (pws.getD i 0)) := by
  rw [World.cell?_alloc_new]
  simp only [Nat.zero_add, List.getElem?_toArray, List.getElem?_map]
  have : i < pws.length := h
  rw [List.getElem?_eq_getElem this]; simp [List.getD, List.getElem?_eq_getElem this]
theorem pws_in (i : Nat) (h : i < 17) : 0 ≤ pws.getD i 0 ∧ pws.getD i 0 ≤ 28 := by
  have := getD_mem pws i h
  revert this
  generalize pws.getD i 0 = z
  intro hm
  have : ∀ z ∈ pws, 0 ≤ z ∧ z ≤ 28 := by decide
  exact this z hm

set_option maxHeartbeats 1000000 in
theorem number_any (b : Nat) (w : World) (h : ∀ i, i < 17 → w.cell? ⟨b, 0 + i, none⟩ = some (.int .i64 (pws.getD i 0))) :
    Calls Try.prog 33 #[.slice (some ⟨b, 0, none⟩) 17 17] w fun e w' => e = .returned (.int .u32 (dv.toNat : Int)) ∧ w' = w := by
  have HC := hid h
  clear h
  go_enter Try.func33, Try.ntmps33
  go_wp2
  go_loop [3, 4] (fun n i => ∃ (k : Nat), k ≤ 17 ∧ i = .int .i64 k ∧ n = .int .u32 (numb (pws.take k))) (fun _ i => 17 - (intOf i).toNat)
  case atStart => exact ⟨0, by omega, rfl, rfl⟩
  case round =>
    obtain ⟨k, hk, rfl, rfl⟩ := hrel
    obtain ⟨hn0, hn1⟩ := numb_lo pws k
    by_cases hlt : k < 17
    · have hlt' : (k : Int) < 17 := by omega
      have hc := HC.out k hlt
      rw [Nat.zero_add] at hc
      obtain ⟨hp0, hp1⟩ := pws_in k hlt
      have HS := hid (numb_snoc (pws.take k) (pws.getD k 0))
      have HT := hid (take_snoc pws k hlt)
      generalize pws.getD k 0 = p at *
      go_wp2
      go_round
      case rel =>
        refine ⟨k + 1, by omega, by go_num, ?_⟩
        rw [HT.out, HS.out]
        exact congrArg (Value.int .u32) (by omega)
      case measure => simp [intOf]; omega
    · have hlt' : ¬ (k : Int) < 17 := by omega
      obtain rfl : k = 17 := by omega
      go_wp2
      go_ret
      exact ⟨ret_int numb_pws, rfl⟩

end Go.Proofs.Ytffopkpbekjanaa
