/- For any signed number the law CodecSigns of the program returns true: it and the one that is as far below 0 less one differ in the lowest bit of the first byte alone. No condition. -/
import Derived.Test.YthhfahnlcoiblabOp
namespace Go.Proofs.Ythhfahnlcoiblab.codecSigns
open Go.ChangeShapes Go.WideShapes Go.ChangeAt Go.RowKit
set_option linter.unusedVariables false

theorem pair_all : ∀ m : Fin 128, bits .xor .u8 ((2 * m.val : Nat) : Int) ((2 * m.val + 1 : Nat) : Int) = 1 ∧ bits .xor .u8 ((2 * m.val + 1 : Nat) : Int) ((2 * m.val : Nat) : Int) = 1 ∧ bits .and .u8 ((2 * m.val : Nat) : Int) 1 = 0 ∧ bits .and .u8 ((2 * m.val + 1 : Nat) : Int) 1 = 1 := by decide +kernel
/-- two numbers that differ in the lowest bit alone. -/
theorem vi_pair (n : Nat) : ∃ (m : Nat) (t : List Int), m < 128 ∧ vi (2 * n) = ((2 * m : Nat) : Int) :: t ∧ vi (2 * n + 1) = ((2 * m + 1 : Nat) : Int) :: t := by
  by_cases h : 2 * n < 128
  · exact ⟨n, [], by omega, vi_lt h, vi_lt (by omega)⟩
  · refine ⟨64 + (2 * n % 128) / 2, vi (2 * n / 128), by omega, ?_, ?_⟩
    · rw [vi_ge h]; congr 1; omega
    · rw [vi_ge (by omega), show (2 * n + 1) / 128 = 2 * n / 128 by omega]; congr 1; omega
theorem signs (x : Int) : ∃ (p q : Int) (t : List Int), vi (zz x) = p :: t ∧ vi (zz (-x - 1)) = q :: t ∧ bits .xor .u8 p q = 1 ∧ bits .and .u8 p 1 = (if x < 0 then 1 else 0) := by
  by_cases h : x < 0
  · obtain ⟨m, t, hm, h1, h2⟩ := vi_pair (-x - 1).toNat
    obtain ⟨k1, k2, k3, k4⟩ := pair_all ⟨m, hm⟩
    refine ⟨_, _, t, ?_, ?_, k2, ?_⟩
    · rw [← h2]; congr 1; unfold zz; split <;> omega
    · rw [← h1]; congr 1; unfold zz; split <;> omega
    · rw [if_pos h]; exact k4
  · obtain ⟨m, t, hm, h1, h2⟩ := vi_pair x.toNat
    obtain ⟨k1, k2, k3, k4⟩ := pair_all ⟨m, hm⟩
    refine ⟨_, _, t, ?_, ?_, k1, ?_⟩
    · rw [← h1]; congr 1; unfold zz; split <;> omega
    · rw [← h2]; congr 1; unfold zz; split <;> omega
    · rw [if_neg h]; exact k3
theorem Own.cell {B : Nat} {w : World} {a : Option Addr} {n c : Nat} {zs : List Int} (h : Own B w (.slice a n c) zs) (hn : 0 < n) : ∃ g, a = some ⟨g, 0, none⟩ ∧ n = zs.length ∧ n ≤ c ∧ c ≤ 9223372036854775807 ∧ B ≤ g ∧ g < w.heap.size ∧ ∀ i, i < n → w.cell? ⟨g, i, none⟩ = some (.int .u8 (zs.getD i 0)) := by
  rcases h.form with ⟨e, _⟩ | ⟨g, c', cur, e, h1, h2, hB, h3, _, h4⟩
  · cases e; omega
  · cases e
    unfold maxLen at h2
    exact ⟨g, rfl, rfl, h1, h2, hB, lt_of_block h3, fun i hi => by rw [cell_of h3]; exact h4 i hi⟩
theorem tail_isB {w : World} {g n c : Nat} {z : Int} {t : List Int} (h : IsB w (.slice (some ⟨g, 0, none⟩) n c) (z :: t)) (W : World) (hW : W.heap = w.heap) (o m d : Nat) (ho : o = 1 ∨ t.length = 0) (hm : m = t.length) (hd : m ≤ d) (hd2 : d ≤ maxLen) : IsB W (.slice (some ⟨g, o, none⟩) m d) t := by
  have hb := h.bound
  by_cases h0 : t.length = 0
  · obtain rfl : t = [] := List.eq_nil_of_length_eq_zero h0
    subst hm
    exact ⟨by simp, by simp, _, d, rfl, by simp, hd2, .inl rfl⟩
  · obtain rfl : o = 1 := by omega
    have h2 := (h.heap hW).part 1 n (by simp at hb; omega) (Nat.le_refl _) m d (by simp at hb; omega) hd hd2
    subst hm
    simpa using h2
set_option maxHeartbeats 4000000 in
theorem walk (x : Int) (w : World) (h0 : (Lit.int .i64 x).wf = true) :
    Calls Try.prog 5 #[.int .i64 x] w fun e w' => e = .returned (.bool true) ∧ Below w.heap.size w w' := by
  obtain ⟨hx0, hx1⟩ := wf_i64 h0
  clear h0
  obtain ⟨p0, q0, t, hp, hq, hxor, hand⟩ := signs x
  have hlp := vi_len10 (zz_lt ⟨hx0, hx1⟩)
  replace hp := hid hp
  replace hq := hid hq
  replace hand := hid hand
  go_enter Try.func5, Try.ntmps5
  go_wp2_with fail
  refine (awake_any w).mono ?_
  rintro e w1 ⟨rfl, b1⟩
  have B1 := hid b1
  clear b1
  go_wp2_with fail
  refine (m_new (Many.nil w1)).mono ?_
  rintro e w2 ⟨p, rfl, m2⟩
  replace m2 := hid m2
  go_wp2_with fail
  refine (m_new m2.out).mono ?_
  rintro e w3 ⟨p2, rfl, m3⟩
  replace m3 := hid m3
  clear m2
  go_wp2_with fail
  refine (m_int m3.out 0 rfl x ⟨hx0, hx1⟩ (by simp)).mono ?_
  rintro e w4 ⟨rfl, m4⟩
  replace m4 := hid m4
  clear m3
  go_wp2_with fail
  have hw : wrap64 (wrap64 (-x) - 1) = -x - 1 := by unfold wrap64; omega
  rw [hw]
  clear hw
  refine (m_int m4.out 1 rfl (-x - 1) (by omega) (by simp)).mono ?_
  rintro e w5 ⟨rfl, m5⟩
  have m6 : Many w1.heap.size w1 w5 [.wr p (vi (zz x)), .wr p2 (vi (zz (-x - 1)))] := m5
  rw [hp.out, hq.out] at m6
  rw [hp.out] at hlp
  replace m6 := hid m6
  clear m4 m5 hp hq
  have hlp2 : t.length ≤ 9 := by simp at hlp; omega
  clear hlp
  go_wp2_with fail
  refine (m_out m6.out 0 rfl (by simp; omega)).mono ?_
  rintro e w7 ⟨a7, c7, rfl, o7, m7, -⟩
  replace m7 := hid m7
  replace o7 := hid o7
  clear m6
  go_wp2_with fail
  refine (m_out m7.out 1 rfl (by simp; omega)).mono ?_
  rintro e w8 ⟨a8, c8, rfl, o8, m8, b8⟩
  replace o7 := o7.out.below b8
  clear m7 b8
  obtain ⟨g7, rfl, -, h71, h72, -, -, k7⟩ := Own.cell o7 (by simp)
  obtain ⟨g8, rfl, -, h81, h82, -, -, k8⟩ := Own.cell o8 (by simp)
  have c70 : w8.cell? ⟨g7, 0, none⟩ = some (.int .u8 p0) := k7 0 (by simp)
  have c80 : w8.cell? ⟨g8, 0, none⟩ = some (.int .u8 q0) := k8 0 (by simp)
  have i7 := hid (tail_isB o7.isB)
  have i8 := hid (tail_isB o8.isB)
  have e7 : (p0 :: t).length = t.length + 1 := rfl
  have e8 : (q0 :: t).length = t.length + 1 := rfl
  rw [e7] at h71 o7
  rw [e8] at h81 o8
  replace m8 := hid m8
  clear k7 k8 o7 o8
  have hand2 : Hid ((bits .and .u8 p0 1 == 1) = decide (x < 0)) := by
    show _ = _
    rw [hand.out]
    by_cases hx : x < 0
    · rw [if_pos hx]; simp [hx]
    · rw [if_neg hx]; simp [hx]
  clear hand
  have h1t : (1 : Int) ≤ (t.length : Int) + 1 := by omega
  have hc7 : c7 ≤ maxLen := by unfold maxLen; omega
  have hc8 : c8 ≤ maxLen := by unfold maxLen; omega
  by_cases hx : x < 0
  · have hand' : (bits .and .u8 p0 1 == 1) = true := by rw [hand2.out]; simp [hx]
    clear hand2
    by_cases hc71 : c7 = 1
    · have ht0 : t.length = 0 := by omega
      by_cases hc81 : c8 = 1
      all_goals
        go_wp2
        go_quiet (fail)
        go_wp2
        have hh : Hid ((w8.drewN nq).heap = w8.heap) := rfl
        have m9 := hid (m8.out.heap nq)
        generalize w8.drewN nq = w9 at *
        go_quiet ((go_at_call 12; exact Calls.quiet_of (same_any _ _ t t _ (by exact i7.out _ hh.out _ _ _ (by omega) (by omega) (by omega) (by omega)) (by exact i8.out _ hh.out _ _ _ (by omega) (by omega) (by omega) (by omega)))))
        go_wp2
        go_ret
        exact ⟨by simp, low' B1.out ((m9.out.heap _).low)⟩
    · by_cases hc81 : c8 = 1
      · have ht0 : t.length = 0 := by omega
        go_wp2
        go_quiet (fail)
        go_wp2
        have hh : Hid ((w8.drewN nq).heap = w8.heap) := rfl
        have m9 := hid (m8.out.heap nq)
        generalize w8.drewN nq = w9 at *
        go_quiet ((go_at_call 12; exact Calls.quiet_of (same_any _ _ t t _ (by exact i7.out _ hh.out _ _ _ (by omega) (by omega) (by omega) (by omega)) (by exact i8.out _ hh.out _ _ _ (by omega) (by omega) (by omega) (by omega)))))
        go_wp2
        go_ret
        exact ⟨by simp, low' B1.out ((m9.out.heap _).low)⟩
      · go_wp2
        go_quiet (fail)
        go_wp2
        have hh : Hid ((w8.drewN nq).heap = w8.heap) := rfl
        have m9 := hid (m8.out.heap nq)
        generalize w8.drewN nq = w9 at *
        go_quiet ((go_at_call 12; exact Calls.quiet_of (same_any _ _ t t _ (by exact i7.out _ hh.out _ _ _ (by omega) (by omega) (by omega) (by omega)) (by exact i8.out _ hh.out _ _ _ (by omega) (by omega) (by omega) (by omega)))))
        go_wp2
        go_ret
        exact ⟨by simp, low' B1.out ((m9.out.heap _).low)⟩
  · have hand' : (bits .and .u8 p0 1 == 1) = false := by rw [hand2.out]; simp [hx]
    clear hand2
    by_cases hc71 : c7 = 1
    · have ht0 : t.length = 0 := by omega
      by_cases hc81 : c8 = 1
      all_goals
        go_wp2
        go_quiet (fail)
        go_wp2
        have hh : Hid ((w8.drewN nq).heap = w8.heap) := rfl
        have m9 := hid (m8.out.heap nq)
        generalize w8.drewN nq = w9 at *
        go_quiet ((go_at_call 12; exact Calls.quiet_of (same_any _ _ t t _ (by exact i7.out _ hh.out _ _ _ (by omega) (by omega) (by omega) (by omega)) (by exact i8.out _ hh.out _ _ _ (by omega) (by omega) (by omega) (by omega)))))
        go_wp2
        go_ret
        exact ⟨by simp, low' B1.out ((m9.out.heap _).low)⟩
    · by_cases hc81 : c8 = 1
      · have ht0 : t.length = 0 := by omega
        go_wp2
        go_quiet (fail)
        go_wp2
        have hh : Hid ((w8.drewN nq).heap = w8.heap) := rfl
        have m9 := hid (m8.out.heap nq)
        generalize w8.drewN nq = w9 at *
        go_quiet ((go_at_call 12; exact Calls.quiet_of (same_any _ _ t t _ (by exact i7.out _ hh.out _ _ _ (by omega) (by omega) (by omega) (by omega)) (by exact i8.out _ hh.out _ _ _ (by omega) (by omega) (by omega) (by omega)))))
        go_wp2
        go_ret
        exact ⟨by simp, low' B1.out ((m9.out.heap _).low)⟩
      · go_wp2
        go_quiet (fail)
        go_wp2
        have hh : Hid ((w8.drewN nq).heap = w8.heap) := rfl
        have m9 := hid (m8.out.heap nq)
        generalize w8.drewN nq = w9 at *
        go_quiet ((go_at_call 12; exact Calls.quiet_of (same_any _ _ t t _ (by exact i7.out _ hh.out _ _ _ (by omega) (by omega) (by omega) (by omega)) (by exact i8.out _ hh.out _ _ _ (by omega) (by omega) (by omega) (by omega)))))
        go_wp2
        go_ret
        exact ⟨by simp, low' B1.out ((m9.out.heap _).low)⟩

theorem own : ownKnob Try.prog.godebug = none := by kernel_rfl
theorem laidOut : laidOutB Try.prog = true := by kernel_rfl

set_option maxRecDepth 100000 in
theorem lifted (os : Os) (started : os.Started) (H : Type) (enc : TypeId × Value → H) :
    ReturnsInHanded {} Try.checked os 5 .any (Rows.codecSignsSpec.pre6 enc Try.prog Try.f5 Rows.codecSignsRow.domain false) (Rows.codecSignsSpec.post enc Try.prog Try.f5 false true false false) := by
  refine returnsInHanded_of_change (C := Try.checked) own started (by kernel_rfl) Try.func5
    (ChangeSpec.witness6 (enc := enc) (C := Try.checked) false ⟨#[], #[.int .i64 0], []⟩ 8 (by kernel_rfl) (by kernel_rfl) (by kernel_rfl) (by kernel_rfl)) ?_
  intro W base args ds gs before hval0 hW hcnd _
  have hval : ∀ (j : Nat) t v, Try.f5.params[j]? = some t → args[j]? = some v → Value.okWide Try.prog W .any base t v := hval0
  have hW' := hW
  obtain ⟨p, q, hA0, hV, rfl, hfz, hnd⟩ := hW
  have hA : DataW.TrodAll enc Try.prog W 0 (fun _ => true) true Try.f5.params.toList args.toList ds p := hA0
  rw [Try.params5] at hA hval
  obtain ⟨v0, vs0, d0, ds0, p0, q0, hargs, rfl, rfl, h0, r0⟩ := trodAll_cons hA
  obtain ⟨rfl, rfl, rfl⟩ := trodAll_nil r0
  obtain rfl : args = #[v0] := by cases args; simp_all
  obtain ⟨rfl, rfl⟩ := trodVars_none hV
  obtain ⟨a0, rfl, rfl, rfl, w0⟩ := open_int Try.underlying2 (hval 0 2 v0 rfl rfl) h0
  clear hA0 hval0
  refine (walk a0 W w0).mono fun e W' ⟨he, bel⟩ => ?_
  subst he
  exact ⟨_, rfl, _, _, _, [], _, [], hW', trodAll_mk1 (shut_bool Try.underlying4 _), (trodAll_cons_mk (shut_int Try.underlying2 w0) trodAll_mk0), rfl, bel.frame _, fun h => by cases h⟩

theorem over : Rows.codecSignsRow.holds Try.pinned (OpenSpec.ofChange Rows.codecSignsSpec) :=
  OpenClaim.holds_of_wide 5 Try.f5 rfl rfl rfl rfl rfl rfl rfl ⟨rfl, rfl, rfl, rfl, rfl⟩ rfl rfl rfl rfl rfl (by kernel_rfl) Try.func5 (by kernel_rfl)
    (of_decide_eq_true (by kernel_rfl)) (by unfold Func.isWrapper; first | (rw [if_pos (by decide +kernel)]; kernel_rfl) | (rw [if_neg (by decide +kernel)]; exact ⟨rfl, rfl⟩))
    (fun os started H enc _ => lifted os started H enc)

theorem proved : Rows.CodecSignsSaid := over
#print axioms proved

end Go.Proofs.Ythhfahnlcoiblab.codecSigns
