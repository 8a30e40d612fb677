/- Contract of between: blanks and remarks ahead of a token. -/
import Derived.Test.YtlggdeadkebgiaaC1
namespace Go.Proofs.Ytlggdeadkebgiaa
open Go.RowKit Go.Shelf

theorem gap_at {s : Tx} {n : Nat} {c : UInt8} (hlt : n < s.length) (hcd : c = s.getD n 0) (hb : blk c = true) (h : gap s = n + gap (s.drop n)) : gap s = n + 1 + gap (s.drop (n + 1)) := by
  rw [drop_at hlt, ← hcd, gap_blank _ hb] at h
  omega
theorem gap_end {s : Tx} {n : Nat} {c : UInt8} (hlt : n < s.length) (hcd : c = s.getD n 0) (hb : blk c = false) (h35 : c ≠ 35) (h : gap s = n + gap (s.drop n)) : gap s = n := by
  rw [drop_at hlt, ← hcd, gap_stop _ hb h35] at h
  omega
theorem gap_note_at {s : Tx} {n : Nat} {c : UInt8} (hlt : n < s.length) (hcd : c = s.getD n 0) (h35 : c = 35) (h : gap s = n + gap (s.drop n)) : gap s = n + cnt rmk (s.drop n) + gap (s.drop (n + cnt rmk (s.drop n))) ∧ 0 < cnt rmk (s.drop n) := by
  have e := drop_at hlt
  rw [← hcd, h35] at e
  have g := gap_remark (s.drop (n + 1))
  rw [← e, List.drop_drop] at g
  refine ⟨by omega, ?_⟩
  rw [e, cnt_pos (by decide)]
  omega
set_option maxHeartbeats 1000000 in
theorem between_any (s : Tx) (hs : s.length ≤ 9223372036854775806) (w : World) : Calls Try.prog 21 #[str s] w fun e w' => e = .returned (.int .i64 (gap s : Int)) ∧ w' = w := by
  unfold str
  go_enter Try.func21, Try.ntmps21
  go_wp2
  go_loop [3] (fun iv => ∃ n : Nat, n ≤ s.length ∧ iv = .int .i64 (n : Int) ∧ Hid (gap s = n + gap (s.drop n))) (fun iv => s.length - (intOf iv).toNat)
  case atStart => exact ⟨0, by omega, rfl, by show gap s = 0 + gap (s.drop 0); simp⟩
  case round =>
    obtain ⟨n, hn, rfl, hg⟩ := hrel
    by_cases hlt : n < s.length
    · have hlt' : (n : Int) < (s.length : Int) := by omega
      have hget := get_at hlt
      obtain ⟨c, hcd⟩ : ∃ c, c = s.getD n 0 := ⟨_, rfl⟩
      rw [← hcd] at hget
      by_cases h32 : c.toNat = 32
      · have hc : c = 32 := UInt8.toNat_inj.1 h32
        have hg2 := hid (gap_at hlt hcd (by rw [hc]; decide) hg.out)
        have t32 : ((c.toNat : Int) == 32) = true := by simp; omega
        clear hc hcd hg h32
        go_wp2
        exact ⟨⟨n + 1, by omega, by go_num, hg2⟩, by simp [intOf]; omega⟩
      have t32 : ((c.toNat : Int) == 32) = false := by simp; omega
      by_cases h9 : c.toNat = 9
      · have hc : c = 9 := UInt8.toNat_inj.1 h9
        have hg2 := hid (gap_at hlt hcd (by rw [hc]; decide) hg.out)
        have t9 : ((c.toNat : Int) == 9) = true := by simp; omega
        clear hc hcd hg h9
        go_wp2
        exact ⟨⟨n + 1, by omega, by go_num, hg2⟩, by simp [intOf]; omega⟩
      have t9 : ((c.toNat : Int) == 9) = false := by simp; omega
      by_cases h10 : c.toNat = 10
      · have hc : c = 10 := UInt8.toNat_inj.1 h10
        have hg2 := hid (gap_at hlt hcd (by rw [hc]; decide) hg.out)
        have t10 : ((c.toNat : Int) == 10) = true := by simp; omega
        clear hc hcd hg h10
        go_wp2
        exact ⟨⟨n + 1, by omega, by go_num, hg2⟩, by simp [intOf]; omega⟩
      have t10 : ((c.toNat : Int) == 10) = false := by simp; omega
      by_cases h13 : c.toNat = 13
      · have hc : c = 13 := UInt8.toNat_inj.1 h13
        have hg2 := hid (gap_at hlt hcd (by rw [hc]; decide) hg.out)
        have t13 : ((c.toNat : Int) == 13) = true := by simp; omega
        clear hc hcd hg h13
        go_wp2
        exact ⟨⟨n + 1, by omega, by go_num, hg2⟩, by simp [intOf]; omega⟩
      have t13 : ((c.toNat : Int) == 13) = false := by simp; omega
      by_cases h35 : c.toNat = 35
      · have hc : c = 35 := UInt8.toNat_inj.1 h35
        obtain ⟨g2, gp⟩ := gap_note_at hlt hcd hc hg.out
        have hg2 := hid g2
        have t35 : ((c.toNat : Int) == 35) = true := by simp; omega
        have e2 := ext_from s n s.length rfl
        have hle := cnt_le rmk (s.drop n)
        have hlen : (s.drop n).length = s.length - n := by simp
        rw [hlen] at hle
        have hct := hid (count_remark (s.drop n) (by rw [hlen]; omega) w)
        have c3 : (0 : Int) ≤ (n : Int) := by omega
        have c4 : (n : Int) ≤ (s.length : Int) := by omega
        clear hlen
        generalize cnt rmk (s.drop n) = m at *
        have c5 : IntKind.i64.wrap ((n : Int) + (m : Int)) = (n : Int) + (m : Int) := by rw [IntKind.wrap_i64]; omega
        clear hc hcd hg h35 h32 h9 h10 h13 g2
        unfold str at hct
        go_wp2_with (go_at_call 27; refine hct.out.mono ?_; rintro e w' ⟨rfl, hw'⟩; have hw2 := hw'.symm; subst hw2)
        exact ⟨⟨n + m, by omega, by go_num, hg2⟩, by simp [intOf]; omega⟩
      have t35 : ((c.toNat : Int) == 35) = false := by simp; omega
      have e : Hid ((n : Int) = (gap s : Int)) := by
        unfold Hid
        rw [gap_end hlt hcd (by unfold blk; simp [h32, h9, h10, h13]) (fun e => h35 (by rw [e]; rfl)) hg.out]
      clear hcd hg h35 h32 h9 h10 h13
      go_wp2
      go_ret
      exact ⟨ret_int e.out, rfl⟩
    · have hlt' : ¬ (n : Int) < (s.length : Int) := by omega
      obtain rfl : n = s.length := by omega
      have e : Hid ((s.length : Int) = (gap s : Int)) := by
        unfold Hid
        have := hg.out
        rw [List.drop_length] at this
        rw [this]
        rfl
      clear hg
      go_wp2
      go_ret
      exact ⟨ret_int e.out, rfl⟩
end Go.Proofs.Ytlggdeadkebgiaa
