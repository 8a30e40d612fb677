/- Contracts of the document's Number, Frame. -/
import Derived.Test.YtffopkpbekjanaaZ1
import Derived.Test.YtffopkpbekjanaaW5
namespace Go.Proofs.Ytffopkpbekjanaa
open Go.RowKit

set_option maxHeartbeats 1000000 in
theorem rnumber (N : Nat) (w : World) (hN : N ≤ 65536) :
    Calls Try.prog 25 #[.int .u64 (N : Int)] w fun e w' => ∃ a c, e = .returned (.slice a (vi N).length c) ∧ Own w.heap.size w' (.slice a (vi N).length c) (vi N) ∧ Below w.heap.size w w' := by
  go_enter Try.func25, Try.ntmps25
  go_wp2
  go_loopw [0, 3] (fun nv bv wr => ∃ (n : Nat) (b : List Int), n ≤ 65536 ∧ nv = .int .u64 (n : Int) ∧ b ++ vi n = vi N ∧ b.length ≤ 65536 - n ∧ Own w.heap.size wr bv b ∧ Below w.heap.size w wr) (fun nv _ _ => (intOf nv).toNat)
  case atStart => exact ⟨N, [], hN, rfl, rfl, by simp, own_nil _ _, Below.refl _ _⟩
  case round =>
    obtain ⟨n, b, hn, rfl, hv, hl, ho, hb⟩ := hrel
    obtain ⟨a0, c0, e0⟩ := ho.slice
    subst e0
    have HV := hid hv
    clear hv
    by_cases h : 128 ≤ n
    · have h' : (127 : Int) < (n : Int) := by omega
      obtain ⟨a', c', w', hrun, ho', hb'⟩ := push_run ho (128 + (n : Int) % 128) (by omega) (by omega) hb.size
      replace ho' := hid ho'
      replace hb := hid (hb.trans hb')
      clear ho hb'
      go_wp2_with (at_builtin; refine wpList_append_run _ rfl _ _ 22 rfl _ _ _ _ rfl rfl hrun ?_)
      go_roundw
      case rel => exact ⟨n / 128, b ++ [128 + (n : Int) % 128], by omega, by go_num, by rw [← HV.out, vi_ge (show ¬ n < 128 by omega)]; simp, by simp; omega, by simpa using ho'.out, hb.out⟩
      case measure => simp [intOf]; omega
    · have h' : ¬ (127 : Int) < (n : Int) := by omega
      obtain ⟨a', c', w', hrun, ho', hb'⟩ := push_run ho (n : Int) (by omega) (by omega) hb.size
      have hvl : vi N = b ++ [(n : Int)] := by rw [← HV.out, vi_lt (show n < 128 by omega)]
      have hlen : b.length + 1 = (vi N).length := by rw [hvl]; simp
      rw [hlen, ← hvl] at ho'
      rw [hlen] at hrun
      replace ho' := hid ho'
      replace hb := hid (hb.trans hb')
      clear ho hb' hvl hlen
      go_wp2_with (at_builtin; refine wpList_append_run _ rfl _ _ 22 rfl _ _ _ _ rfl rfl hrun ?_)
      go_ret
      exact ⟨_, _, rfl, ho'.out, hb.out⟩
/-- the first so many bytes of a number. -/
def fours (n : Int) (k : Nat) : List Int := (four n).take k
theorem fours_succ (s : R) (k : Nat) (h : k < 4) : fours (s.toNat : Int) (k + 1) = fours (s.toNat : Int) k ++ [((s.toNat / 256 ^ k : Nat) : Int) % 256] := by
  have hs := s.isLt
  obtain rfl | rfl | rfl | rfl : k = 0 ∨ k = 1 ∨ k = 2 ∨ k = 3 := by omega
  all_goals simp [fours, four]
set_option maxHeartbeats 2000000 in
theorem rframe (v : Value) (zs : List Int) (w : World) (h : IsB w v zs) (hl : zs.length ≤ 65536) :
    Calls Try.prog 12 #[v] w fun e w' => ∃ a c, e = .returned (.slice a (fr zs).length c) ∧ Own w.heap.size w' (.slice a (fr zs).length c) (fr zs) ∧ Below w.heap.size w w' := by
  obtain ⟨a, c, rfl⟩ := h.slice
  have hb := h.bound
  have hvl : (vi zs.length).length ≤ 3 := by rw [vi_len (by omega)]; unfold wide; split <;> (try split) <;> omega
  replace h := hid h
  go_enter Try.func12, Try.ntmps12
  go_wp2_with fail
  refine (rnumber zs.length _ hl).mono ?_
  rintro e w1 ⟨a1, c1, rfl, o1, b1⟩
  obtain ⟨a2, c2, w2, hrun, o2, g2, _⟩ := app_run o1 (h.out.below b1) (by omega) b1.size
  have b2 := b1.trans (app_low o1 b1.size g2)
  have hs2 := hid (rsum_any _ _ _ o2.isB (by simp; omega))
  obtain ⟨s, hs⟩ : ∃ s : R, s = sum (vi zs.length ++ zs) := ⟨_, rfl⟩
  rw [← hs] at hs2
  have HS := hid hs
  obtain ⟨hd, hhd⟩ : ∃ hd, hd = vi zs.length ++ zs := ⟨_, rfl⟩
  have hlen : (vi zs.length).length + zs.length = hd.length := by rw [hhd]; simp
  rw [← hhd] at o2
  rw [hlen] at hrun o2 hs2
  have hdl : hd.length ≤ 65540 := by omega
  have HD := hid hhd
  have O2 := hid o2
  have B2 := hid b2
  have s32 := s.isLt
  clear o1 b1 g2 o2 b2 hs hhd hlen
  go_wp2_with (first | (at_builtin; refine wpList_append_run _ rfl _ _ 22 rfl _ _ _ _ rfl rfl hrun ?_; clear hrun) | (go_at_call 26; refine hs2.out.mono ?_; clear hs2; rintro e w3 ⟨rfl, b3⟩))
  have O3 := hid (O2.out.below b3)
  have B3 := hid (low' B2.out b3)
  clear O2 B2 b3
  go_loopw [3, 4, 5] (fun ov sv iv wr => ∃ k : Nat, k ≤ 4 ∧ iv = .int .i64 (k : Int) ∧ sv = .int .u32 ((s.toNat / 256 ^ k : Nat) : Int) ∧ Own w.heap.size wr ov (hd ++ fours (s.toNat : Int) k) ∧ Below w.heap.size w wr) (fun _ _ iv _ => 4 - (intOf iv).toNat)
  case atStart => exact ⟨0, by omega, rfl, by simp, by simpa [fours] using O3.out, B3.out⟩
  case round =>
    obtain ⟨k, hk, rfl, rfl, ho, hb⟩ := hrel
    obtain ⟨a0, c0, e0⟩ := ho.slice
    subst e0
    clear O3 B3
    by_cases hlt : k < 4
    · have hlt' : (k : Int) < 4 := by omega
      have hfs := fours_succ s k hlt
      have hfl : (hd ++ fours (s.toNat : Int) k).length ≤ 65550 := by simp [fours]; omega
      obtain ⟨q, hq⟩ : ∃ q : Nat, q = s.toNat / 256 ^ k := ⟨_, rfl⟩
      have hq2 : s.toNat / 256 ^ (k + 1) = q / 256 := by rw [hq, Nat.pow_succ, Nat.div_div_eq_div_mul]
      have hq32 : q < 4294967296 := by rw [hq]; exact Nat.lt_of_le_of_lt (Nat.div_le_self _ _) s32
      rw [← hq] at hfs ⊢
      replace hq2 := hid hq2
      obtain ⟨a', c', w', hrun, ho', hb'⟩ := push_run ho ((q : Int) % 256) (by omega) (by omega) hb.size
      rw [List.append_assoc, ← hfs] at ho'
      have hlen : (hd ++ fours (s.toNat : Int) k).length + 1 = (hd ++ fours (s.toNat : Int) (k + 1)).length := by rw [hfs]; simp; omega
      rw [hlen] at hrun ho'
      replace ho' := hid ho'
      replace hb := hid (hb.trans hb')
      clear hb' hfs hq ho hfl hlen
      generalize hd ++ fours (s.toNat : Int) k = y at *
      generalize hy : hd ++ fours (s.toNat : Int) (k + 1) = y2 at *
      replace hy := hid hy
      go_wp2_with (at_builtin; refine wpList_append_run _ rfl _ _ 22 rfl _ _ _ _ rfl rfl hrun ?_)
      go_roundw
      case rel => exact ⟨k + 1, by omega, by go_num, by rw [hq2.out]; go_num, by rw [hy.out]; exact ho'.out, hb.out⟩
      case measure => simp [intOf]; omega
    · have hlt' : ¬ (k : Int) < 4 := by omega
      obtain rfl : k = 4 := by omega
      have e : hd ++ fours (s.toNat : Int) 4 = fr zs := by rw [HD.out, HS.out]; simp [fr, fours, four]
      rw [e] at ho ⊢
      replace ho := hid ho
      replace hb := hid hb
      clear e
      go_wp2
      go_ret
      exact ⟨_, _, rfl, ho.out, hb.out⟩
end Go.Proofs.Ytffopkpbekjanaa
