/- Contract of the row's takeNumber. -/
import Derived.Test.YthhfahnlcoiblaaR1
import Derived.Deep.Cut
import Derived.Deep.CutRange
import Derived.Deep.DeepCutAuto
namespace Go.Proofs.Ythhfahnlcoiblaa
open Go.RowKit

theorem and_all : ∀ m : Fin 256, bits .and .u8 ((m.val : Nat) : Int) 127 = ((m.val % 128 : Nat) : Int) := by decide +kernel
theorem and7 (z : Int) (h : 0 ≤ z ∧ z < 256) : bits .and .u8 z 127 = z % 128 := by
  have := and_all ⟨z.toNat, by omega⟩
  simp only at this
  rw [show ((z.toNat : Nat) : Int) = z by omega] at this
  rw [this]; omega
theorem bits_or64 (a b : Nat) (ha : a < 18446744073709551616) (hb : b < 18446744073709551616) : bits .or .u64 (a : Int) (b : Int) = ((a ||| b : Nat) : Int) := by
  show IntKind.u64.wrap (((BitVec.ofInt 64 (a : Int) ||| BitVec.ofInt 64 (b : Int)).toNat : Nat) : Int) = _
  rw [BitVec.ofInt_natCast, BitVec.ofInt_natCast, BitVec.toNat_or, BitVec.toNat_ofNat, BitVec.toNat_ofNat, Nat.mod_eq_of_lt (by omega), Nat.mod_eq_of_lt (by omega)]
  have h : a ||| b < 2 ^ 64 := Nat.or_lt_two_pow (by omega) (by omega)
  rw [IntKind.wrap_u64]
  omega
/-- one digit more, as the program sets it. -/
def orv (u : Nat) (z : Int) (k : Nat) : Int := bits .or .u64 (u : Int) (IntKind.u64.wrap (IntKind.u64.wrap (bits .and .u8 z 127) * 2 ^ (7 * k)))
theorem orv_form (u : Nat) (z : Int) (k : Nat) (hz : 0 ≤ z ∧ z < 256) (hu : u < 18446744073709551616) : orv u z k = ((u ||| ((z % 128).toNat * 128 ^ k) % 18446744073709551616 : Nat) : Int) := by
  unfold orv
  rw [and7 z hz, IntKind.wrap_u64, IntKind.wrap_u64, ← bits_or64 _ _ hu (Nat.mod_lt _ (by omega))]
  congr 1
  have e : (2 : Int) ^ (7 * k) = ((128 ^ k : Nat) : Int) := by rw [Int.pow_mul, show (2 : Int) ^ 7 = ((128 : Nat) : Int) by decide, ← Int.natCast_pow]
  rw [e, show z % 128 % 18446744073709551616 = (((z % 128).toNat : Nat) : Int) by omega, ← Int.natCast_mul]
  generalize (z % 128).toNat * 128 ^ k = x
  omega
theorem orv_lt (u : Nat) (z : Int) (k : Nat) (hz : 0 ≤ z ∧ z < 256) (hu : u < 18446744073709551616) : ∃ n : Nat, orv u z k = (n : Int) ∧ n < 18446744073709551616 := by
  refine ⟨_, orv_form u z k hz hu, ?_⟩
  have h : u ||| ((z % 128).toNat * 128 ^ k) % 18446744073709551616 < 2 ^ 64 := Nat.or_lt_two_pow (by omega) (Nat.mod_lt _ (by omega))
  omega
theorem orv_val {zs : List Int} (hb : Byt zs) {k : Nat} (hk : k < zs.length) (h9 : k ≤ 8 ∨ k = 9 ∧ zs.getD k 0 ≤ 1) : orv (val (zs.take k)) (zs.getD k 0) k = (val (zs.take (k + 1)) : Int) := by
  have hz := hb.getD k hk
  have hlt : val (zs.take k) < 128 ^ k := by have := val_lt (zs.take k); rwa [List.length_take, Nat.min_eq_left (by omega)] at this
  have h8 : 128 ^ k ≤ 128 ^ 9 := Nat.pow_le_pow_right (by omega) (by omega)
  have e9 : 128 ^ 9 = 9223372036854775808 := by decide
  have ht : zs.take (k + 1) = zs.take k ++ [zs.getD k 0] := by rw [List.take_succ_eq_append_getElem hk]; simp [List.getD, List.getElem?_eq_getElem hk]
  rw [orv_form _ _ _ hz (by omega), ht, val_snoc, List.length_take, Nat.min_eq_left (by omega)]
  generalize zs.getD k 0 = z at *
  have hm : (z % 128).toNat * 128 ^ k < 18446744073709551616 := by
    rcases h9 with h | ⟨rfl, h⟩
    · have h1 : (z % 128).toNat * 128 ^ k ≤ 127 * 128 ^ k := Nat.mul_le_mul_right _ (by omega)
      have h2 : 128 ^ (k + 1) ≤ 128 ^ 9 := Nat.pow_le_pow_right (by omega) (by omega)
      rw [Nat.pow_succ] at h2
      omega
    · have h1 : (z % 128).toNat * 128 ^ 9 ≤ 1 * 128 ^ 9 := Nat.mul_le_mul_right _ (by omega)
      omega
  rw [Nat.mod_eq_of_lt hm]
  congr 1
  have e7 : 128 ^ k = 2 ^ (7 * k) := by rw [Nat.pow_mul]
  rw [e7] at hlt ⊢
  have h := Nat.shiftLeft_add_eq_or_of_lt hlt (z % 128).toNat
  rw [Nat.shiftLeft_eq] at h
  rw [Nat.or_comm, ← h, Nat.add_comm]
/-- what takeNumber tells, and makes of the row. -/
def Took (F : Nat → Prop) (q : Nat) (w : World) (zs : List Int) (e : Ending) (w' : World) : Prop := match numP zs with
  | none => e = .returned (.tuple #[.int .u64 0, .bool false]) ∧ ∃ n, w' = w.drewN n
  | some (v, k) => e = .returned (.tuple #[.int .u64 (v : Int), .bool true]) ∧ ∃ sv' n, Sl F w sv' (zs.drop k) ∧ w' = (w.drewN n).setCell ⟨q, 0, none⟩ sv'
theorem Took.no {F : Nat → Prop} {q : Nat} {w : World} {zs : List Int} {n : Nat} (hn : numP zs = none) : Took F q w zs (.returned (.tuple #[.int .u64 0, .bool false])) (w.drewN n) := by
  unfold Took; rw [hn]; exact ⟨rfl, n, rfl⟩
theorem Took.yes {F : Nat → Prop} {q : Nat} {w : World} {zs : List Int} {k n : Nat} {sv' : Value} {e : Ending} (hn : numP zs = some (val (zs.take (k + 1)), k + 1)) (he : e = .returned (.tuple #[.int .u64 (val (zs.take (k + 1)) : Int), .bool true])) (hs : Sl F w sv' (zs.drop (k + 1))) : Took F q w zs e ((w.drewN n).setCell ⟨q, 0, none⟩ sv') := by
  unfold Took; rw [hn]; exact ⟨he, sv', n, hs, rfl⟩
theorem ret_num {a b : Int} (h : a = b) : Ending.returned (.tuple #[.int .u64 a, .bool true]) = .returned (.tuple #[.int .u64 b, .bool true]) := by rw [h]
set_option maxHeartbeats 2000000 in
theorem takeNumber_any {F : Nat → Prop} {q : Nat} {sv : Value} {zs : List Int} (w : World) (hq : w.heap[q]? = some (.cells #[sv] 62)) (hs : Sl F w sv zs) :
    Calls Try.prog 48 #[ptr q] w fun e w' => Took F q w zs e w' := by
  have c0 : w.cell? ⟨q, 0, none⟩ = some sv := by rw [cell_of hq]; rfl
  have z0 : w.frozen? ⟨q, 0, none⟩ = false := frozen_of hq 0
  have hB := hid hs.isB
  obtain ⟨a, c, rfl⟩ := hs.slice
  have hbd := hs.isB.bound
  have hl := hid (fun n => left_any (w.drewN n) (q := q) (a := a) (n := zs.length) (c := c) c0)
  have hS := hid hs
  clear hs
  unfold ptr at *
  go_enter Try.func48, Try.ntmps48
  go_upto_region 1 with fail
  go_cut [13, 14, 15] from 6 (fun s13 s14 s15 wx => ∃ a' m d n, s13 = .slice a' m d ∧ s14 = .int .i64 (m : Int) ∧ s15 = .int .i64 0 ∧ wx = w.drewN n ∧ IsB w (.slice a' m d) (zs.take m) ∧ m = min zs.length 10)
  case first =>
    rcases hS.out.2 with ⟨e, rfl⟩ | ⟨b, off, c', cur, e, h1, h2, h5, h3, h4⟩
    · cases e
      go_quiet ((go_at_call 42; exact Calls.quiet_of_same (hl.out _)))
      all_goals go_wp2
      all_goals go_meet
      all_goals exact ⟨none, 0, 0, _, rfl, rfl, rfl, rfl, (Sl.nil F w).isB, rfl⟩
    · cases e
      have hI := hid (hB.out.part 0 (min zs.length 10) (by omega) (by omega) (min zs.length 10) c (by omega) (by omega) (by unfold maxLen; omega))
      clear h1 h2 h5 h3 h4
      by_cases h10 : zs.length ≤ 10
      · have h10' : (zs.length : Int) ≤ 10 := by omega
        rw [Nat.min_eq_left h10, Nat.add_zero, List.drop_zero] at hI
        have hm : Hid (zs.length = min zs.length 10) := by show _ = _; omega
        go_quiet ((go_at_call 42; exact Calls.quiet_of_same (hl.out _)))
        all_goals go_wp2
        all_goals go_meet
        all_goals exact ⟨_, zs.length, c, _, rfl, rfl, rfl, rfl, hI.out, hm.out⟩
      · have h10' : ¬ (zs.length : Int) ≤ 10 := by omega
        rw [Nat.min_eq_right (by omega), Nat.add_zero, List.drop_zero] at hI
        have hm : Hid (10 = min zs.length 10) := by show _ = _; omega
        go_quiet ((go_at_call 42; exact Calls.quiet_of_same (hl.out _)))
        all_goals go_wp2
        all_goals go_meet
        all_goals exact ⟨_, 10, c, _, rfl, rfl, rfl, rfl, hI.out, hm.out⟩
  case rest =>
    obtain ⟨a', m, d, nd, rfl, rfl, rfl, rfl, hIB, hm⟩ := hcut
    have hm10 : m ≤ 10 := by omega
    have hmz : m ≤ zs.length := by omega
    have HM := hid hm
    have HI := hid hIB
    obtain ⟨-, hbI1, hbI2⟩ := hIB.bound
    clear hm hIB
    go_wp2
    go_loop [2, 15] (fun v i => ∃ (k u : Nat), k ≤ m ∧ i = .int .i64 (k : Int) ∧ v = .int .u64 (u : Int) ∧ u < 18446744073709551616 ∧ (∀ j, j < k → 128 ≤ zs.getD j 0) ∧ (k ≤ 9 → u = val (zs.take k))) (fun _ i => m - (intOf i).toNat)
    case atStart => exact ⟨0, 0, by omega, rfl, rfl, by omega, (fun j hj => by omega), fun _ => rfl⟩
    case round =>
      obtain ⟨k, u, hk, rfl, rfl, hu, hj, hval⟩ := hrel
      replace hj := hid hj
      by_cases hlt : k < m
      · have hlt' : (k : Int) < (m : Int) := by omega
        obtain ⟨b, off, rfl, hc⟩ := (HI.out.at).2.2.2 (by omega)
        have hck := hc k (by omega)
        have hg : (zs.take m).getD k 0 = zs.getD k 0 := by simp [List.getD, List.getElem?_take_of_lt hlt]
        rw [hg] at hck
        have hz := hS.out.1.getD k (by omega)
        clear hc hg
        obtain ⟨z, hzz⟩ : ∃ z, z = zs.getD k 0 := ⟨_, rfl⟩
        rw [← hzz] at hck hz
        have HZ := hid hzz
        clear hzz
        obtain ⟨hz0, hz1⟩ := hz
        have hval' := hid hval
        clear hval
        have hkz : k < zs.length := by omega
        by_cases h128 : 128 ≤ z
        · obtain ⟨u', hu', hlu⟩ := orv_lt u z k ⟨hz0, hz1⟩ hu
          unfold orv at hu'
          have hj' : Hid (∀ j, j < k + 1 → 128 ≤ zs.getD j 0) := fun j h => by
            by_cases e : j = k
            · rw [e, ← HZ.out]; exact h128
            · exact hj.out j (by omega)
          have hv' : Hid (k + 1 ≤ 9 → u' = val (zs.take (k + 1))) := fun h => by
            have h1 := orv_val hS.out.1 hkz (.inl (by omega))
            rw [← hval'.out (by omega), ← HZ.out] at h1
            unfold orv at h1
            rw [hu'] at h1
            exact Int.ofNat_inj.1 h1
          go_wp2
          exact ⟨⟨k + 1, u', by omega, by go_num, rfl, hlu, hj'.out, hv'.out⟩, by simp [intOf]; omega⟩
        · have hst := hid (numP_stop hS.out.1 hj.out hkz (by rw [← HZ.out]; omega) (by omega))
          rw [← HZ.out] at hst
          by_cases hbad : (z = 0 ∧ 0 < k) ∨ (1 < z ∧ k = 9)
          · have hnone : numP zs = none := by rw [hst.out, if_pos hbad]
            clear hst
            replace hnone := hid hnone
            rcases hbad with ⟨rfl, hk0⟩ | ⟨hz1', rfl⟩
            · have hk0' : (0 : Int) < (k : Int) := by omega
              go_wp2
              go_ret2
              exact Took.no hnone.out
            · have hzz : (z == 0) = false := by simp; omega
              go_wp2
              go_ret2
              exact Took.no hnone.out
          · have hsome : Hid (numP zs = some (val (zs.take (k + 1)), k + 1)) := by show _ = _; rw [hst.out, if_neg hbad]
            clear hst
            have hv' : Hid (bits .or .u64 (u : Int) (IntKind.u64.wrap (IntKind.u64.wrap (bits .and .u8 z 127) * 2 ^ (7 * k))) = (val (zs.take (k + 1)) : Int)) := by
              have h1 := orv_val hS.out.1 hkz (by rw [← HZ.out]; omega)
              rw [← hval'.out (by omega), ← HZ.out] at h1
              exact h1
            rcases hS.out.2 with ⟨e, e2⟩ | ⟨b0, off0, c', cur, e, h1, h2, h5, h3, h4⟩
            · subst e2; simp at hkz
            · cases e
              have hk1 : (k : Int) + 1 ≤ (zs.length : Int) := by omega
              by_cases hck1 : c = k + 1
              · subst hck1
                have hsl := hid (hS.out.drop (k + 1) (by omega))
                clear h1 h2 h5 h3 h4
                by_cases hz0' : z = 0
                · have hk0 : ¬ (0 : Int) < (k : Int) := by omega
                  have hzb : (z == 0) = true := by simpa using hz0'
                  have hz1b : ¬ 1 < z := by omega
                  clear hz0'
                  have hv0 : Hid (bits .or .u64 (u : Int) (IntKind.u64.wrap (IntKind.u64.wrap (bits .and .u8 z 127))) = (val (zs.take (k + 1)) : Int)) := by
                    have h := hv'.out
                    rw [show 7 * k = 0 by omega, Int.pow_zero, Int.mul_one] at h
                    exact h
                  go_wp2
                  go_ret2
                  exact Took.yes hsome.out (ret_num hv0.out) (hsl.out _ _ _ (by omega) (by omega) (by omega) (by unfold maxLen; omega))
                · have hzb : (z == 0) = false := by simpa using hz0'
                  by_cases hz1b : 1 < z
                  · have hk9 : ((k : Int) == 9) = false := by simp; omega
                    go_wp2
                    go_ret2
                    exact Took.yes hsome.out (ret_num hv'.out) (hsl.out _ _ _ (by omega) (by omega) (by omega) (by unfold maxLen; omega))
                  · go_wp2
                    go_ret2
                    exact Took.yes hsome.out (ret_num hv'.out) (hsl.out _ _ _ (by omega) (by omega) (by omega) (by unfold maxLen; omega))
              · have hsl := hid (hS.out.drop (k + 1) (by omega))
                clear h1 h2 h5 h3 h4
                by_cases hz0' : z = 0
                · have hk0 : ¬ (0 : Int) < (k : Int) := by omega
                  have hzb : (z == 0) = true := by simpa using hz0'
                  have hz1b : ¬ 1 < z := by omega
                  clear hz0'
                  have hv0 : Hid (bits .or .u64 (u : Int) (IntKind.u64.wrap (IntKind.u64.wrap (bits .and .u8 z 127))) = (val (zs.take (k + 1)) : Int)) := by
                    have h := hv'.out
                    rw [show 7 * k = 0 by omega, Int.pow_zero, Int.mul_one] at h
                    exact h
                  go_wp2
                  go_ret2
                  exact Took.yes hsome.out (ret_num hv0.out) (hsl.out _ _ _ (by omega) (by omega) (by omega) (by unfold maxLen; omega))
                · have hzb : (z == 0) = false := by simpa using hz0'
                  by_cases hz1b : 1 < z
                  · have hk9 : ((k : Int) == 9) = false := by simp; omega
                    go_wp2
                    go_ret2
                    exact Took.yes hsome.out (ret_num hv'.out) (hsl.out _ _ _ (by omega) (by omega) (by omega) (by unfold maxLen; omega))
                  · go_wp2
                    go_ret2
                    exact Took.yes hsome.out (ret_num hv'.out) (hsl.out _ _ _ (by omega) (by omega) (by omega) (by unfold maxLen; omega))
      · have hlt' : ¬ (k : Int) < (m : Int) := by omega
        have hnone : Hid (numP zs = none) := numP_end (fun j h => hj.out j (by have := HM.out; omega))
        go_wp2
        go_ret2
        exact Took.no hnone.out
end Go.Proofs.Ythhfahnlcoiblaa
