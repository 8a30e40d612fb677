/- Contract of the document's own sum: bit by bit it comes to what the program's sum is. -/
import Derived.Test.YtffopkpbekjanaaW3
import Derived.Test.YtffopkpbekjanaaLeavesP
namespace Go.Proofs.Ytffopkpbekjanaa
open Go.RowKit

theorem bit_val (z : Int) (h0 : 0 ≤ z) (h : z < 256) (j : Nat) : (z / 2 ^ j) % 2 = if (byt z).getLsbD j then 1 else 0 := by
  have hb : (byt z).getLsbD j = decide (z.toNat / 2 ^ j % 2 = 1) := by
    rw [BitVec.getLsbD, Nat.testBit_eq_decide_div_mod_eq]
    have : (byt z).toNat = z.toNat := by unfold byt; rw [BitVec.toNat_ofInt]; omega
    rw [this]
  rw [hb]
  obtain ⟨n, rfl⟩ : ∃ n : Nat, z = (n : Int) := ⟨z.toNat, by omega⟩
  have e : ((n : Int) / 2 ^ j) % 2 = ((n / 2 ^ j % 2 : Nat) : Int) := by simp
  rw [e, Int.toNat_natCast]
  generalize hm : n / 2 ^ j % 2 = m
  have : m < 2 := by rw [← hm]; exact Nat.mod_lt _ (by omega)
  obtain rfl | rfl : m = 0 ∨ m = 1 := by omega
  · simp
  · simp

theorem pow_small (j : Nat) (h : j < 8) : (2 : Int) ^ j % 4294967296 = 2 ^ j := by
  obtain rfl | rfl | rfl | rfl | rfl | rfl | rfl | rfl : j = 0 ∨ j = 1 ∨ j = 2 ∨ j = 3 ∨ j = 4 ∨ j = 5 ∨ j = 6 ∨ j = 7 := by omega
  all_goals decide
theorem arg_eq (x : R) (z : Int) (h0 : 0 ≤ z) (h : z < 256) (j : Nat) (hj : j < 8) :
    (x.toNat : Int) - (x.toNat : Int) % 2 + ((x.toNat : Int) + (z / (2 ^ j % 4294967296)).tmod 2) % 2 = ((x ^^^ bit01 ((byt z).getLsbD j)).toNat : Int) := by
  rw [← xor_bit, ← bit_val z h0 h j, pow_small j hj, Int.tmod_eq_emod_of_nonneg (Int.ediv_nonneg h0 (Int.pow_nonneg (by omega)))]
  omega

set_option maxHeartbeats 4000000 in
theorem rsum_any (v : Value) (zs : List Int) (w : World) (h : IsB w v zs) (hw : zs.length ≤ 1000000) :
    Calls Try.prog 26 #[v] w fun e w' => e = .returned (.int .u32 ((sum zs).toNat : Int)) ∧ Below w.heap.size w w' := by
  obtain ⟨hm, hzb, a, cap, rfl, hcap, _, hor⟩ := h
  have HZ := hid hzb
  have HC := hid hor
  clear hzb hor hm
  go_enter Try.func26, Try.ntmps26
  go_wp2_with (first | (go_at_call 34; refine (powers_any _).mono ?_; rintro e w' ⟨rfl, rfl⟩) | (go_at_call 33; refine (number_any _ _ (pws_cell _ _)).mono ?_; rintro e w' ⟨rfl, rfl⟩))
  go_loop [4, 5] (fun x i => ∃ (k : Nat), k ≤ 8 * zs.length ∧ i = .int .i64 k ∧ x = .int .u32 ((bst zs k).toNat : Int)) (fun _ i => 8 * zs.length - (intOf i).toNat)
  case atStart => exact ⟨0, by omega, rfl, by rw [bst_zero]; rfl⟩
  case round =>
    obtain ⟨k, hk, rfl, rfl⟩ := hrel
    by_cases hlt : k < 8 * zs.length
    · have hlt' : (k : Int) < 8 * (zs.length : Int) := by omega
      obtain ⟨b, off, rfl, hcell⟩ : ∃ b off, a = some ⟨b, off, none⟩ ∧ ∀ i, i < zs.length → w.cell? ⟨b, off + i, none⟩ = some (.int .u8 (zs.getD i 0)) := by
        rcases HC.out with h | h
        · subst h; simp at hlt
        · exact h
      have hq : k / 8 < zs.length := by omega
      have hc0 := hcell (k / 8) hq
      have hbl := World.block_lt_of_cell? _ _ hc0
      have hzz := HZ.out _ (getD_mem zs _ hq)
      have HN := hid (bst_succ zs HZ.out k hlt)
      have HV := hid (arg_eq (bst zs k) (zs.getD (k / 8) 0) hzz.1 hzz.2 (k % 8) (Nat.mod_lt _ (by omega)))
      have hdz : ¬ (2 : Int) ^ (k % 8) % 4294967296 = 0 := by
        rw [pow_small _ (Nat.mod_lt _ (by omega))]
        have : (0 : Int) < 2 ^ (k % 8) := Int.pow_pos (by omega)
        omega
      have e1 : ((k : Int) / 8) = ((k / 8 : Nat) : Int) := by omega
      have e2 : ((k : Int) % 8) = ((k % 8 : Nat) : Int) := by omega
      have HE1 := hid e1
      have HE2 := hid e2
      clear hcell e1 e2
      generalize zs.getD (k / 8) 0 = z at *
      obtain ⟨hz0, hz1⟩ := hzz
      have hlt32 := (bst zs k).isLt
      go_wp2_with fail
      rw [HV.out]
      refine (up_any _ _).mono ?_
      rintro e w' ⟨rfl, rfl⟩
      go_wp2
      go_round
      case rel => exact ⟨k + 1, by omega, by go_num, by rw [HN.out]⟩
      case measure => simp [intOf]; omega
    · have hlt' : ¬ (k : Int) < 8 * (zs.length : Int) := by omega
      obtain rfl : k = 8 * zs.length := by omega
      rw [bst_end]
      go_wp2
      go_ret
      refine ⟨ret_int ?_, (Below.refl _ _).alloc (Nat.le_refl _) _⟩
      exact ones_not _
end Go.Proofs.Ytffopkpbekjanaa
