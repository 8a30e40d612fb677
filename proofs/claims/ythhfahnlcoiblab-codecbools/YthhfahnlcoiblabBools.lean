/- For any byte the law CodecBools of the program returns true: a bool is just one of two bytes, every other byte is refused. No condition. -/
import Derived.Test.YthhfahnlcoiblabOp
namespace Go.Proofs.Ythhfahnlcoiblab.codecBools
open Go.ChangeShapes Go.WideShapes Go.ChangeAt Go.RowKit
set_option linter.unusedVariables false

theorem rest {b : Int} {z : Int} (h : b = z) : ([z] == [b]) = true := by subst h; simp
set_option maxHeartbeats 4000000 in
theorem walk (b : Int) (w : World) (hb : (Lit.int .u8 b).wf = true) :
    Calls Try.prog 6 #[.int .u8 b] w fun e w' => e = .returned (.bool true) ∧ Below w.heap.size w w' := by
  obtain ⟨hb0, hb1⟩ := wf_u8 hb
  clear hb
  have hr := rnum_one [b] (byt_one ⟨hb0, hb1⟩)
  simp only at hr
  have HR := hid hr
  clear hr
  go_enter Try.func6, Try.ntmps6
  go_wp2_with fail
  refine (awake_any w).mono ?_
  rintro e w1 ⟨rfl, b1⟩
  have B1 := hid b1
  clear b1
  go_wp2_with fail
  refine (m_over ((Many.nil w1).later (alloc_below _ _)) _ (isB_new w1 _ [b] _ _ rfl rfl rfl (byt_one ⟨hb0, hb1⟩) (by simp [maxLen])) (by simp)).mono ?_
  rintro e w2 ⟨p, rfl, m2⟩
  replace m2 := hid m2
  go_wp2_with fail
  refine (m_rbool m2.out 0 rfl).mono ?_
  rw [HR.out]
  clear m2
  by_cases h1 : 1 < b
  · rw [if_neg (by omega)]
    rintro e w3 ⟨rfl, m3⟩
    replace m3 := hid m3
    go_wp2_with (go_at_call 17; refine (m_err m3.out 0 rfl).mono ?_; rintro e w4 ⟨rfl, rfl⟩)
    go_ret
    exact ⟨rfl, low' B1.out m3.out.low⟩
  · rw [if_pos (by omega)]
    rintro e w3 ⟨rfl, m3⟩
    replace m3 := hid m3
    obtain rfl | rfl : b = 0 ∨ b = 1 := by omega
    · go_wp2_with fail
      refine (m_new m3.out).mono ?_
      rintro e w4 ⟨p2, rfl, m4⟩
      replace m4 := hid m4
      go_wp2_with fail
      refine (m_bool m4.out 1 rfl _ (by simp)).mono ?_
      rintro e w5 ⟨rfl, m5⟩
      replace m5 := hid m5
      go_wp2_with fail
      refine (m_done m5.out 0 rfl).mono ?_
      rintro e w6 ⟨rfl, rfl⟩
      go_wp2_with fail
      refine (m_out m5.out 1 rfl (by simp)).mono ?_
      rintro e w7 ⟨a7, c7, rfl, o7, m7, -⟩
      go_wp2_with fail
      refine (same_any _ _ _ _ _ (o7.below (alloc_below _ _)).isB (isB_new w7 _ [0] _ _ rfl rfl rfl (byt_one (by omega)) (by simp [maxLen]))).mono ?_
      rintro e w8 ⟨rfl, n, rfl⟩
      go_wp2
      go_ret
      exact ⟨rfl, low' B1.out ((m7.later (alloc_below _ _)).heap n).low⟩
    · go_wp2_with fail
      refine (m_new m3.out).mono ?_
      rintro e w4 ⟨p2, rfl, m4⟩
      replace m4 := hid m4
      go_wp2_with fail
      refine (m_bool m4.out 1 rfl _ (by simp)).mono ?_
      rintro e w5 ⟨rfl, m5⟩
      replace m5 := hid m5
      go_wp2_with fail
      refine (m_done m5.out 0 rfl).mono ?_
      rintro e w6 ⟨rfl, rfl⟩
      go_wp2_with fail
      refine (m_out m5.out 1 rfl (by simp)).mono ?_
      rintro e w7 ⟨a7, c7, rfl, o7, m7, -⟩
      go_wp2_with fail
      refine (same_any _ _ _ _ _ (o7.below (alloc_below _ _)).isB (isB_new w7 _ [1] _ _ rfl rfl rfl (byt_one (by omega)) (by simp [maxLen]))).mono ?_
      rintro e w8 ⟨rfl, n, rfl⟩
      go_wp2
      go_ret
      exact ⟨rfl, low' B1.out ((m7.later (alloc_below _ _)).heap n).low⟩

theorem own : ownKnob Try.prog.godebug = none := by kernel_rfl
theorem laidOut : laidOutB Try.prog = true := by kernel_rfl

set_option maxRecDepth 100000 in
theorem lifted (os : Os) (started : os.Started) (H : Type) (enc : TypeId × Value → H) :
    ReturnsInHanded {} Try.checked os 6 .any (Rows.codecBoolsSpec.pre6 enc Try.prog Try.f6 Rows.codecBoolsRow.domain false) (Rows.codecBoolsSpec.post enc Try.prog Try.f6 false true false false) := by
  refine returnsInHanded_of_change (C := Try.checked) own started (by kernel_rfl) Try.func6
    (ChangeSpec.witness6 (enc := enc) (C := Try.checked) false ⟨#[], #[.int .u8 0], []⟩ 8 (by kernel_rfl) (by kernel_rfl) (by kernel_rfl) (by kernel_rfl)) ?_
  intro W base args ds gs before hval0 hW hcnd _
  have hval : ∀ (j : Nat) t v, Try.f6.params[j]? = some t → args[j]? = some v → Value.okWide Try.prog W .any base t v := hval0
  have hW' := hW
  obtain ⟨p, q, hA0, hV, rfl, hfz, hnd⟩ := hW
  have hA : DataW.TrodAll enc Try.prog W 0 (fun _ => true) true Try.f6.params.toList args.toList ds p := hA0
  rw [Try.params6] at hA hval
  obtain ⟨v0, vs0, d0, ds0, p0, q0, hargs, rfl, rfl, h0, r0⟩ := trodAll_cons hA
  obtain ⟨rfl, rfl, rfl⟩ := trodAll_nil r0
  obtain rfl : args = #[v0] := by cases args; simp_all
  obtain ⟨rfl, rfl⟩ := trodVars_none hV
  obtain ⟨a0, rfl, rfl, rfl, w0⟩ := open_int Try.underlying5 (hval 0 5 v0 rfl rfl) h0
  clear hA0 hval0
  refine (walk a0 W w0).mono fun e W' ⟨he, bel⟩ => ?_
  subst he
  exact ⟨_, rfl, _, _, _, [], _, [], hW', trodAll_mk1 (shut_bool Try.underlying4 _), (trodAll_cons_mk (shut_int Try.underlying5 w0) trodAll_mk0), rfl, bel.frame _, fun h => by cases h⟩

theorem over : Rows.codecBoolsRow.holds Try.pinned (OpenSpec.ofChange Rows.codecBoolsSpec) :=
  OpenClaim.holds_of_wide 6 Try.f6 rfl rfl rfl rfl rfl rfl rfl ⟨rfl, rfl, rfl, rfl, rfl⟩ rfl rfl rfl rfl rfl (by kernel_rfl) Try.func6 (by kernel_rfl)
    (of_decide_eq_true (by kernel_rfl)) (by unfold Func.isWrapper; first | (rw [if_pos (by decide +kernel)]; kernel_rfl) | (rw [if_neg (by decide +kernel)]; exact ⟨rfl, rfl⟩))
    (fun os started H enc _ => lifted os started H enc)

theorem proved : Rows.CodecBoolsSaid := over
#print axioms proved

end Go.Proofs.Ythhfahnlcoiblab.codecBools
