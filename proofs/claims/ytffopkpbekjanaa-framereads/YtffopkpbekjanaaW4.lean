/- Contracts of the program's number, together, sum, Encode. -/
import Derived.Test.YtffopkpbekjanaaM1
namespace Go.Proofs.Ytffopkpbekjanaa
open Go.RowKit

theorem or_all : ∀ m : Fin 256, bits .or .u8 ((m.val : Nat) : Int) 128 = ((128 + m.val % 128 : Nat) : Int) := by decide +kernel
theorem or7 (n : Nat) : bits .or .u8 ((n : Int) % 256) 128 = ((128 + n % 128 : Nat) : Int) := by
  have h := or_all ⟨n % 256, Nat.mod_lt _ (by omega)⟩
  simp only at h
  rw [show ((n : Int) % 256) = ((n % 256 : Nat) : Int) by omega, h]
  congr 1
  omega
set_option maxHeartbeats 1000000 in
theorem number_of (N : Nat) (w : World) (hN : N ≤ 65536) :
    Calls Try.prog 22 #[.int .i64 (N : Int)] w fun e w' => ∃ v, e = .returned v ∧ Own w.heap.size w' v (vi N) ∧ Below w.heap.size w w' := by
  go_enter Try.func22, Try.ntmps22
  go_wp2
  go_loopw [0, 3] (fun nv bv wr => ∃ (n : Nat) (b : List Int), n ≤ 65536 ∧ nv = .int .i64 (n : Int) ∧ b ++ vi n = vi N ∧ b.length ≤ 65536 - n ∧ Own w.heap.size wr bv b ∧ Below w.heap.size w wr) (fun nv _ _ => (intOf nv).toNat)
  case atStart => exact ⟨N, [], hN, rfl, rfl, by simp, own_nil _ _, Below.refl _ _⟩
  case round =>
    obtain ⟨n, b, hn, rfl, hv, hl, ho, hb⟩ := hrel
    obtain ⟨a0, c0, e0⟩ := ho.slice
    subst e0
    have HV := hid hv
    clear hv
    by_cases h : 128 ≤ n
    · have h' : (128 : Int) ≤ (n : Int) := by omega
      have e7 := or7 n
      obtain ⟨a', c', w', hrun, ho', hb'⟩ := push_run ho (bits .or .u8 ((n : Int) % 256) 128) (by rw [e7]; omega) (by omega) hb.size
      replace ho' := hid ho'
      replace hb := hid (hb.trans hb')
      replace e7 := hid e7
      clear ho hb'
      go_wp2_with (at_builtin; refine wpList_append_run _ rfl _ _ 22 rfl _ _ _ _ rfl rfl hrun ?_)
      go_roundw
      case rel => exact ⟨n / 128, b ++ [bits .or .u8 ((n : Int) % 256) 128], by omega, by go_num, by rw [← HV.out, vi_ge (show ¬ n < 128 by omega), ← e7.out]; simp, by simp; omega, by simpa using ho'.out, hb.out⟩
      case measure => simp [intOf]; omega
    · have h' : ¬ (128 : Int) ≤ (n : Int) := by omega
      obtain ⟨a', c', w', hrun, ho', hb'⟩ := push_run ho (n : Int) (by omega) (by omega) hb.size
      replace ho' := hid ho'
      replace hb := hid (hb.trans hb')
      clear ho hb'
      go_wp2_with (at_builtin; refine wpList_append_run _ rfl _ _ 22 rfl _ _ _ _ rfl rfl hrun ?_)
      go_ret
      exact ⟨_, rfl, by rw [← HV.out, vi_lt (show n < 128 by omega)]; simpa using ho'.out, hb.out⟩

theorem IsP.at {w : World} {a : Option Addr} {n c : Nat} {l : List (List Int)} (h : IsP w (.slice a n c) l) (k : Nat) (hk : k < l.length) : ∃ b off a1 c1, a = some ⟨b, off, none⟩ ∧ w.cell? ⟨b, off + k, none⟩ = some (.slice a1 (l.getD k []).length c1) ∧ IsB w (.slice a1 (l.getD k []).length c1) (l.getD k []) := by
  obtain ⟨h1, a', c', e, h3⟩ := h
  cases e
  rcases h3 with h3 | ⟨b, off, rfl, hc⟩
  · subst h3; simp at hk
  · obtain ⟨u, hu, hB⟩ := hc k hk
    obtain ⟨a1, c1, rfl⟩ := hB.slice
    exact ⟨b, off, a1, c1, rfl, hu, hB⟩
theorem flat_le (l : List (List Int)) (k : Nat) : (l.take k).flatten.length ≤ l.flatten.length := by
  conv => rhs; rw [← List.take_append_drop k l, List.flatten_append]
  simp
set_option maxHeartbeats 1000000 in
theorem together_of (v : Value) (l : List (List Int)) (w : World) (h : IsP w v l) (hl : l.flatten.length ≤ 140737488355328) :
    Calls Try.prog 23 #[v] w fun e w' => ∃ v, e = .returned v ∧ Own w.heap.size w' v l.flatten ∧ Below w.heap.size w w' := by
  obtain ⟨a, c, rfl⟩ : ∃ a c, v = .slice a l.length c := by obtain ⟨_, a, c, e, _⟩ := h; exact ⟨a, c, e⟩
  have hm := h.1
  unfold maxLen at hm
  replace h := hid h
  go_enter Try.func23, Try.ntmps23
  go_wp2
  go_loopw [3, 8] (fun bv iv wr => ∃ (k : Nat), k ≤ l.length ∧ iv = .int .i64 (k : Int) ∧ Own w.heap.size wr bv (l.take k).flatten ∧ Below w.heap.size w wr) (fun _ iv _ => l.length - (intOf iv).toNat)
  case atStart => exact ⟨0, by omega, rfl, own_nil _ _, Below.refl _ _⟩
  case round =>
    obtain ⟨k, hk, rfl, ho, hb⟩ := hrel
    obtain ⟨a0, c0, e0⟩ := ho.slice
    subst e0
    by_cases hlt : k < l.length
    · have hlt' : (k : Int) < (l.length : Int) := by omega
      obtain ⟨b, off, a1, c1, rfl, hcell, hB⟩ := (h.out.below hb).at k hlt
      have hfl := flat_le l (k + 1)
      have HF := hid (flat_take l k hlt)
      rw [HF.out, List.length_append] at hfl
      obtain ⟨a', c', w', hrun, ho', hg, _⟩ := app_run ho hB (by omega) hb.size
      have hb' := hid (hb.trans (app_low ho hb.size hg))
      replace ho' := hid ho'
      clear hg hB ho
      replace hb := hid hb
      generalize l.getD k [] = zs at *
      generalize (l.take k).flatten = ys at *
      go_wp2_with (at_builtin; refine wpList_append_run _ rfl _ _ 22 rfl _ _ _ _ rfl rfl hrun ?_)
      go_roundw
      case rel => exact ⟨k + 1, by omega, by go_num, by rw [HF.out]; exact ho'.out, hb'.out⟩
      case measure => simp [intOf]; omega
    · have hlt' : ¬ (k : Int) < (l.length : Int) := by omega
      obtain rfl : k = l.length := by omega
      simp only [List.take_length] at ho ⊢
      replace ho := hid ho
      replace hb := hid hb
      generalize hz : l.flatten = zs at ho ⊢
      replace hz := hid hz
      go_wp2
      go_ret
      refine ⟨.slice a0 zs.length c0, rfl, ?_, hb.out⟩
      rw [hz.out]
      exact ho.out
theorem isB_four_eq (s : R) : #[Value.int .u8 ((s.toNat : Int) % 256), Value.int .u8 ((s.toNat : Int) / 256 % 256), Value.int .u8 ((s.toNat : Int) / 65536 % 256), Value.int .u8 ((s.toNat : Int) / 16777216)] = ((four (s.toNat : Int)).map (Value.int .u8)).toArray := by
  have h := s.isLt
  have e : (s.toNat : Int) / 16777216 % 256 = (s.toNat : Int) / 16777216 := by omega
  simp [four, e]
set_option maxHeartbeats 1000000 in
theorem sum_of (v : Value) (l : List (List Int)) (w : World) (h : IsP w v l) :
    Calls Try.prog 24 #[v] w fun e w' => ∃ a c, e = .returned (.slice a 4 c) ∧ Own w.heap.size w' (.slice a 4 c) (four ((sum l.flatten).toNat : Int)) ∧ Below w.heap.size w w' := by
  obtain ⟨a, c, rfl⟩ : ∃ a c, v = .slice a l.length c := by obtain ⟨_, a, c, e, _⟩ := h; exact ⟨a, c, e⟩
  replace h := hid h
  have hs := (sum l.flatten).isLt
  go_enter Try.func24, Try.ntmps24
  go_wp2_with (go_at_call 32; refine (of_any _ _ _ h.out).mono ?_; rintro e w' ⟨rfl, rfl⟩)
  go_ret
  exact ⟨_, _, rfl, own_new _ _ _ _ _ rfl rfl (isB_four_eq _) (four_in _) (by simp [four, maxLen]), alloc_below _ _⟩
theorem two_flat (a b : List Int) : [a, b].flatten = a ++ b := by simp
theorem three_flat (a b c : List Int) : [a, b, c].flatten = a ++ b ++ c := by simp
set_option maxHeartbeats 1000000 in
theorem encode_long (v : Value) (zs : List Int) (w : World) (h : IsB w v zs) (hl : 65536 < zs.length) :
    Calls Try.prog 10 #[v] w fun e w' => e = .returned (.tuple #[.slice none 0 0, .int .i64 3]) ∧ w' = w := by
  obtain ⟨a, c, rfl⟩ := h.slice
  have hb := h.bound
  have hl' : (65536 : Int) < (zs.length : Int) := by omega
  clear h
  go_enter Try.func10, Try.ntmps10
  go_wp2
  go_ret2
  exact ⟨rfl, rfl⟩
set_option maxHeartbeats 2000000 in
theorem encode_any (v : Value) (zs : List Int) (w : World) (h : IsB w v zs) (hl : zs.length ≤ 65536) :
    Calls Try.prog 10 #[v] w fun e w' => ∃ a c, e = .returned (.tuple #[.slice a (fr zs).length c, .int .i64 0]) ∧ Own w.heap.size w' (.slice a (fr zs).length c) (fr zs) ∧ Below w.heap.size w w' := by
  obtain ⟨a, c, rfl⟩ := h.slice
  have hb := h.bound
  have hl' : ¬ (65536 : Int) < (zs.length : Int) := by omega
  replace h := hid h
  go_enter Try.func10, Try.ntmps10
  go_wp2_with fail
  refine (number_of zs.length _ hl).mono ?_
  rintro e w1 ⟨v1, rfl, o1, b1⟩
  obtain ⟨a1, c1, e1⟩ := o1.slice
  subst e1
  replace o1 := hid o1
  replace b1 := hid b1
  have h1 := hid (h.out.below b1.out)
  go_wp2_with fail
  refine (sum_of _ [vi zs.length, zs] _ (isP_two _ _ (by simp) (o1.out.isB) h1.out)).mono ?_
  rintro e w2 ⟨a2, c2, rfl, o2, b2⟩
  rw [two_flat] at o2
  have h2 := hid (h1.out.below (low' (alloc_below _ _) b2))
  have o12 := hid (o1.out.below (low' (alloc_below _ _) b2))
  have b12 := hid (low' b1.out (low' (alloc_below _ _) b2))
  replace o2 := hid o2
  clear b2
  go_wp2_with fail
  refine (together_of _ [vi zs.length, zs, four ((sum (vi zs.length ++ zs)).toNat : Int)] _ (isP_three _ _ (by simp) o12.out.isB h2.out o2.out.isB) (by rw [three_flat]; change (fr zs).length ≤ _; rw [fr_len, vi_len (by omega)]; unfold wide; split <;> (try split) <;> omega)).mono ?_
  rintro e w3 ⟨v3, rfl, o3, b3⟩
  rw [three_flat] at o3
  change Own _ w3 v3 (fr zs) at o3
  obtain ⟨a3, c3, e3⟩ := o3.slice
  subst e3
  have o4 := hid (o3.base (show w.heap.size ≤ _ by have := b12.out.size; simp; omega))
  have b4 := hid (low' b12.out (low' (alloc_below _ _) b3))
  clear o3 b3
  go_wp2_with fail
  go_ret2
  exact ⟨_, _, rfl, o4.out, b4.out⟩
end Go.Proofs.Ytffopkpbekjanaa
