/- The document's window. -/
import Derived.Test.YtjhodmpgggaknaaGreatDoorZF1
import Derived.Test.YtjhodmpgggaknaaGreatDoorZGG
namespace Go.Proofs.YtjhodmpgggaknaaGreatDoor
open Go.RowKit Go.Shelf Go.Maps

def winD (s : Tx) : Int := match winOf s with
  | some n => (n : Int)
  | none => 0
theorem numOf_take (s : Tx) (k : Nat) (hk : k < s.length) : numOf (s.take (k + 1)) = numOf (s.take k) * 10 + (s[k].toNat - 48) := by
  unfold numOf
  rw [List.take_succ_eq_append_getElem hk, List.foldl_append]
  rfl
theorem digsW_take (s : Tx) (k : Nat) (hk : k < s.length) : digsB (s.take (k + 1)) = (digsB (s.take k) && dig s[k]) := by
  unfold digsB
  rw [List.take_succ_eq_append_getElem hk, List.all_append]
  simp
theorem numOf_le (s : Tx) (k : Nat) : numOf (s.take k) ≤ numOf s := by
  have e : numOf s = (s.drop k).foldl (fun n c => n * 10 + (c.toNat - 48)) (numOf (s.take k)) := by
    unfold numOf
    rw [← List.foldl_append, List.take_append_drop]
  rw [e]
  exact foldl_mono _ _
theorem winD_bad {s : Tx} {k : Nat} (hk : k < s.length) (h : dig s[k] = false) : winD s = 0 := by
  have hd : digsB s = false := by
    cases hh : digsB s
    · rfl
    · unfold digsB at hh
      rw [List.all_eq_true] at hh
      rw [hh _ (List.getElem_mem hk)] at h
      cases h
  unfold winD winOf
  rw [hd]
  rfl
theorem winD_big {s : Tx} (k : Nat) (h : 1000 < numOf (s.take k)) : winD s = 0 := by
  have := numOf_le s k
  unfold winD winOf
  rw [show decide (numOf s ≤ 1000) = false from decide_eq_false (by omega), Bool.and_false]
  rfl
theorem winD_all {s : Tx} (h : digsB s = true) (h2 : numOf s ≤ 1000) : winD s = (numOf s : Int) := by
  unfold winD winOf
  rw [h, decide_eq_true h2]
  by_cases h1 : 1 ≤ numOf s
  · rw [decide_eq_true h1]; rfl
  · have e : numOf s = 0 := by omega
    rw [e]; rfl
set_option maxRecDepth 100000 in
set_option maxHeartbeats 1000000 in
theorem rwindow_any (s : Tx) (w : World) (hs : s.length ≤ 35184372088832) : Calls Tryz.prog 110 #[str s] w fun e w' => e = .returned (.int .i64 (winD s)) ∧ w' = w := by
  have hbad := hid (fun k hk h => winD_bad (s := s) (k := k) hk h)
  have hbig := hid (fun k h => winD_big (s := s) k h)
  have hall := hid (fun h h2 => winD_all (s := s) h h2)
  have hnt := hid (fun k hk => numOf_take s k hk)
  have hdt := hid (fun k hk => digsW_take s k hk)
  have hdg := hid (fun k (hk : k < s.length) => dig_iff (c := s[k]))
  have h00 : Hid (numOf (s.take 0) = 0) := rfl
  have hwh : Hid (s.take s.length = s) := List.take_length
  generalize winD s = r at *
  unfold str
  go_enter Tryz.func110, Tryz.ntmps110
  go_wp2
  go_loop [3, 4] (fun nv iv => ∃ k m : Nat, k ≤ s.length ∧ iv = .int .i64 (k : Int) ∧ nv = .int .i64 (m : Int) ∧ m ≤ 20000 ∧ Hid (m = numOf (s.take k) ∧ digsB (s.take k) = true)) (fun _ iv => s.length - (intOf iv).toNat)
  case atStart => exact ⟨0, 0, by omega, rfl, rfl, by omega, ⟨rfl, rfl⟩⟩
  case round =>
    obtain ⟨k, m, hk, rfl, rfl, hm, hI⟩ := hrel
    by_cases hlt : k < s.length
    · have hlt' : (k : Int) < (s.length : Int) := by omega
      have hget := get_at hlt
      rw [show s.getD k 0 = s[k] by simp [List.getD, List.getElem?_eq_getElem hlt]] at hget
      have b1 := hid (hbad.out k hlt)
      have b3 := hnt.out k hlt
      have b4 := hdt.out k hlt
      have b5 := hdg.out k hlt
      obtain ⟨z, hz⟩ : ∃ z, s[k] = z := ⟨_, rfl⟩
      rw [hz] at hget b1 b3 b4 b5
      replace b3 := hid b3
      replace b4 := hid b4
      replace b5 := hid b5
      clear hz hbad hnt hdt hdg
      cases hd : dig z
      · have e := b1.out hd
        subst e
        have hd2 : Hid (¬ (48 ≤ z.toNat ∧ z.toNat ≤ 57)) := fun h => by rw [b5.out.2 h] at hd; cases hd
        clear hd hbig hall b1 b3 b4 b5
        by_cases q1 : ((z.toNat : Int)) < 48
        · have q1' : decide (((z.toNat : Int)) < 48) = true := decide_eq_true q1
          go_wp2
          go_ret
          exact ⟨rfl, rfl⟩
        · have q1' : decide (((z.toNat : Int)) < 48) = false := decide_eq_false q1
          have q2 : (57 : Int) < (z.toNat : Int) := by have := hd2.out; omega
          have q2' : decide ((57 : Int) < (z.toNat : Int)) = true := decide_eq_true q2
          go_wp2
          go_ret
          exact ⟨rfl, rfl⟩
      · have hd2 := b5.out.1 hd
        have hc1 := hd2.1
        have hc2 := hd2.2
        clear hd2 b1 b5
        have q1 : decide (((z.toNat : Int)) < 48) = false := decide_eq_false (by omega)
        have q2 : decide ((57 : Int) < (z.toNat : Int)) = false := decide_eq_false (by omega)
        by_cases hbg : 1000 < m
        · have q3 : decide ((1000 : Int) < (m : Int)) = true := decide_eq_true (by omega)
          have e := hbig.out k (by rw [← hI.out.1]; exact hbg)
          subst e
          clear hd hall b3 b4
          go_wp2
          go_ret
          exact ⟨rfl, rfl⟩
        · have q3 : decide ((1000 : Int) < (m : Int)) = false := decide_eq_false (by omega)
          have hn : Hid (m * 10 + (z.toNat - 48) = numOf (s.take (k + 1)) ∧ digsB (s.take (k + 1)) = true) := by
            show _ ∧ _
            rw [b3.out, b4.out, hd, hI.out.2, hI.out.1]
            exact ⟨rfl, rfl⟩
          have wz : IntKind.u8.wrap ((z.toNat : Int) - 48) = (z.toNat : Int) - 48 := by rw [IntKind.wrap_u8]; omega
          have hle : m ≤ 1000 := by omega
          clear hd hbig hall b3 b4 hbg
          go_wp2
          exact ⟨⟨k + 1, m * 10 + (z.toNat - 48), by omega, by go_num, by first | go_num | (congr 1; omega), by omega, hn.out⟩, by simp [intOf]; omega⟩
    · obtain rfl : k = s.length := by omega
      have e1 := hI.out
      rw [hwh.out] at e1
      by_cases hbg : 1000 < m
      · have q3 : decide ((1000 : Int) < (m : Int)) = true := decide_eq_true (by omega)
        have e := hbig.out s.length (by rw [hwh.out, ← e1.1]; exact hbg)
        subst e
        clear e1 hbad hall hnt hdt hdg hwh hI
        go_wp2
        go_ret
        exact ⟨rfl, rfl⟩
      · have q3 : decide ((1000 : Int) < (m : Int)) = false := decide_eq_false (by omega)
        have e := hall.out e1.2 (by rw [← e1.1]; omega)
        rw [← e1.1] at e
        subst e
        clear e1 hbad hall hnt hdt hdg hwh hI
        go_wp2
        go_ret
        exact ⟨rfl, rfl⟩
end Go.Proofs.YtjhodmpgggaknaaGreatDoor
