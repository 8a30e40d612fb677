/- For any two numbers the law CodecShort of the program returns true: a number has as many bytes as it has sevens of bits, one at least; a greater one not fewer. No condition. -/
import Derived.Test.YthhfahnlcoiblabOp
namespace Go.Proofs.Ythhfahnlcoiblab.codecShort
open Go.ChangeShapes Go.WideShapes Go.ChangeAt Go.RowKit
set_option linter.unusedVariables false

set_option maxHeartbeats 4000000 in
theorem walk (a0 a1 : Int) (w : World) (h0 : (Lit.int .u64 a0).wf = true) (h1 : (Lit.int .u64 a1).wf = true) :
    Calls Try.prog 4 #[.int .u64 a0, .int .u64 a1] w fun e w' => e = .returned (.bool true) ∧ Below w.heap.size w w' := by
  obtain ⟨u, rfl, hu⟩ : ∃ u : Nat, a0 = (u : Int) ∧ u < 18446744073709551616 := ⟨a0.toNat, by have := wf_u64 h0; omega, by have := wf_u64 h0; omega⟩
  obtain ⟨v, rfl, hv⟩ : ∃ u : Nat, a1 = (u : Int) ∧ u < 18446744073709551616 := ⟨a1.toNat, by have := wf_u64 h1; omega, by have := wf_u64 h1; omega⟩
  clear h0 h1
  have hlu := vi_len10 hu
  have hlv := vi_len10 hv
  have hmono := hid (fun h => vi_len_mono v u v (Nat.le_refl _) h)
  go_enter Try.func4, Try.ntmps4
  go_wp2_with fail
  refine (awake_any w).mono ?_
  rintro e w1 ⟨rfl, b1⟩
  have B1 := hid b1
  clear b1
  go_wp2_with fail
  refine (m_new (Many.nil w1)).mono ?_
  rintro e w2 ⟨p, rfl, m2⟩
  replace m2 := hid m2
  go_wp2_with fail
  refine (m_new m2.out).mono ?_
  rintro e w3 ⟨p2, rfl, m3⟩
  replace m3 := hid m3
  clear m2
  go_wp2_with fail
  refine (m_uint m3.out 0 rfl u hu (by simp)).mono ?_
  rintro e w4 ⟨rfl, m4⟩
  replace m4 := hid m4
  clear m3
  go_wp2_with fail
  refine (m_uint m4.out 1 rfl v hv (by simp)).mono ?_
  rintro e w5 ⟨rfl, m5⟩
  have m6 : Many w1.heap.size w1 w5 [.wr p (vi u), .wr p2 (vi v)] := m5
  replace m6 := hid m6
  clear m4 m5
  go_wp2
  go_loop [7, 8] (fun nv xv => ∃ n x : Nat, nv = .int .i64 (n : Int) ∧ xv = .int .u64 (x : Int) ∧ n + (vi x).length = (vi u).length + 1 ∧ x ≤ u) (fun _ xv => (intOf xv).toNat)
  case atStart => exact ⟨1, u, rfl, rfl, by omega, Nat.le_refl _⟩
  case round =>
    obtain ⟨n, x, rfl, rfl, hn, hx⟩ := hrel
    have hp := vi_pos x
    have hn10 : n ≤ 10 := by omega
    replace hn := hid hn
    by_cases h : 128 ≤ x
    · have h' : (128 : Int) ≤ (x : Int) := by omega
      clear hp
      go_wp2
      go_round
      case rel => exact ⟨n + 1, x / 128, by go_num, by go_num, by have h2 := hn.out; rw [vi_ge (show ¬ x < 128 by omega)] at h2; simp at h2; omega, by omega⟩
      case measure => simp [intOf]; omega
    · have h' : ¬ (128 : Int) ≤ (x : Int) := by omega
      have hnu : n = (vi u).length := by have h2 := hn.out; rw [vi_lt (show x < 128 by omega)] at h2; simp at h2; omega
      replace hnu := hid hnu
      have hnb : (((vi u).length : Int) == (n : Int)) = true := by have := hnu.out; simp; omega
      clear hn hp
      go_wp2_with fail
      refine (m_out m6.out 0 rfl (by omega)).mono ?_
      rintro e w7 ⟨a7, c7, rfl, o7, m7, -⟩
      replace m7 := hid m7
      clear o7
      by_cases huv : v < u
      · have huv' : (v : Int) < (u : Int) := by omega
        go_wp2
        go_ret
        exact ⟨rfl, low' B1.out m7.out.low⟩
      · have huv' : ¬ (v : Int) < (u : Int) := by omega
        have hle : ((vi u).length : Int) ≤ ((vi v).length : Int) := by have := hmono.out (by omega); omega
        go_wp2_with fail
        refine (m_out m7.out 0 rfl (by omega)).mono ?_
        rintro e w8 ⟨a8, c8, rfl, o8, m8, -⟩
        replace m8 := hid m8
        clear o8
        go_wp2_with fail
        refine (m_out m8.out 1 rfl (by omega)).mono ?_
        rintro e w9 ⟨a9, c9, rfl, o9, m9, -⟩
        replace m9 := hid m9
        clear o9
        go_wp2
        go_ret
        exact ⟨rfl, low' B1.out m9.out.low⟩

theorem own : ownKnob Try.prog.godebug = none := by kernel_rfl
theorem laidOut : laidOutB Try.prog = true := by kernel_rfl

set_option maxRecDepth 100000 in
theorem lifted (os : Os) (started : os.Started) (H : Type) (enc : TypeId × Value → H) :
    ReturnsInHanded {} Try.checked os 4 .any (Rows.codecShortSpec.pre6 enc Try.prog Try.f4 Rows.codecShortRow.domain false) (Rows.codecShortSpec.post enc Try.prog Try.f4 false true false false) := by
  refine returnsInHanded_of_change (C := Try.checked) own started (by kernel_rfl) Try.func4
    (ChangeSpec.witness6 (enc := enc) (C := Try.checked) false ⟨#[], #[.int .u64 0, .int .u64 0], []⟩ 8 (by kernel_rfl) (by kernel_rfl) (by kernel_rfl) (by kernel_rfl)) ?_
  intro W base args ds gs before hval0 hW hcnd _
  have hval : ∀ (j : Nat) t v, Try.f4.params[j]? = some t → args[j]? = some v → Value.okWide Try.prog W .any base t v := hval0
  have hW' := hW
  obtain ⟨p, q, hA0, hV, rfl, hfz, hnd⟩ := hW
  have hA : DataW.TrodAll enc Try.prog W 0 (fun _ => true) true Try.f4.params.toList args.toList ds p := hA0
  rw [Try.params4] at hA hval
  obtain ⟨v0, vs0, d0, ds0, p0, q0, hargs, rfl, rfl, h0, r0⟩ := trodAll_cons hA
  obtain ⟨v1, vs1, d1, ds1, p1, q1, rfl, rfl, rfl, h1, r1⟩ := trodAll_cons r0
  obtain ⟨rfl, rfl, rfl⟩ := trodAll_nil r1
  obtain rfl : args = #[v0, v1] := by cases args; simp_all
  obtain ⟨rfl, rfl⟩ := trodVars_none hV
  obtain ⟨a0, rfl, rfl, rfl, w0⟩ := open_int Try.underlying28 (hval 0 28 v0 rfl rfl) h0
  obtain ⟨a1, rfl, rfl, rfl, w1⟩ := open_int Try.underlying28 (hval 1 28 v1 rfl rfl) h1
  clear hA0 hval0
  refine (walk a0 a1 W w0 w1).mono fun e W' ⟨he, bel⟩ => ?_
  subst he
  exact ⟨_, rfl, _, _, _, [], _, [], hW', trodAll_mk1 (shut_bool Try.underlying4 _), (trodAll_cons_mk (shut_int Try.underlying28 w0) (trodAll_cons_mk (shut_int Try.underlying28 w1) trodAll_mk0)), rfl, bel.frame _, fun h => by cases h⟩

theorem over : Rows.codecShortRow.holds Try.pinned (OpenSpec.ofChange Rows.codecShortSpec) :=
  OpenClaim.holds_of_wide 4 Try.f4 rfl rfl rfl rfl rfl rfl rfl ⟨rfl, rfl, rfl, rfl, rfl⟩ rfl rfl rfl rfl rfl (by kernel_rfl) Try.func4 (by kernel_rfl)
    (of_decide_eq_true (by kernel_rfl)) (by unfold Func.isWrapper; first | (rw [if_pos (by decide +kernel)]; kernel_rfl) | (rw [if_neg (by decide +kernel)]; exact ⟨rfl, rfl⟩))
    (fun os started H enc _ => lifted os started H enc)

theorem proved : Rows.CodecShortSaid := over
#print axioms proved

end Go.Proofs.Ythhfahnlcoiblab.codecShort
