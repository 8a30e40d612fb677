/- For any three rows of labels the law LabelsOrder of the program returns true and leaves them as they were: of two rows that may be just one is less, or they are the same, as their texts are; and less goes on over a third one. No condition. -/
import Derived.Test.YthcbekccnmdgaaaG
import Derived.Test.YthcbekccnmdgaaaAw
import Derived.Test.YthcbekccnmdgaaaQ2
import Derived.Deep.RegionHeld3
namespace Go.Proofs.Ythcbekccnmdgaaa.labelsOrder
open Go.ChangeShapes Go.WideShapes Go.ChangeAt Go.RowKit
set_option linter.unusedVariables false

theorem print_same {a b : List Lb} (ha : mayL a = true) (hb : mayL b = true) : (printL a == printL b) = (a == b) := by
  by_cases h : a = b
  · subst h; simp
  · have : printL a ≠ printL b := fun e => h (print_inj ha hb e)
    rw [beq_eq_false_iff_ne.2 h, beq_eq_false_iff_ne.2 this]
set_option maxHeartbeats 4000000 in
theorem walk (v0 : Value) (a : List Lb) (v1 : Value) (b : List Lb) (v2 : Value) (c : List Lb) (w : World) (h0 : IsLs w v0 a) (h1 : IsLs w v1 b) (h2 : IsLs w v2 c) :
    Calls Try.prog 7 #[v0, v1, v2] w fun e w' => e = .returned (.bool true) ∧ Below w.heap.size w w' := by
  obtain ⟨a0, c0, rfl⟩ := h0.slice
  obtain ⟨a1, c1, rfl⟩ := h1.slice
  obtain ⟨a2, c2, rfl⟩ := h2.slice
  replace h0 := hid h0
  replace h1 := hid h1
  replace h2 := hid h2
  go_enter Try.func7, Try.ntmps7
  go_wp2_with fail
  refine (awake_any w).mono ?_
  rintro e w0 ⟨rfl, b0⟩
  have B0 := hid b0
  clear b0
  go_wp2_with fail
  refine (great_any _ a w0 (h0.out.below B0.out)).mono ?_
  rintro e w1 ⟨r1, rfl, hf, q1, rfl⟩
  have B1 := hid (below_drewN (n := q1) B0.out)
  generalize w0.drewN q1 = w1 at *
  clear B0
  cases r1 with
  | true =>
    clear hf
    go_wp2
    go_ret
    exact ⟨rfl, B1.out⟩
  | false =>
  replace hf := hid (hf rfl)
  go_wp2_with fail
  refine (great_any _ b w1 (h1.out.below B1.out)).mono ?_
  rintro e w2 ⟨r2, rfl, hg, q2, rfl⟩
  have B2 := hid (below_drewN (n := q2) B1.out)
  generalize w1.drewN q2 = w2 at *
  clear B1
  cases r2 with
  | true =>
    clear hg
    go_wp2
    go_ret
    exact ⟨rfl, B2.out⟩
  | false =>
  replace hg := hid (hg rfl)
  go_wp2_with fail
  refine (great_any _ c w2 (h2.out.below B2.out)).mono ?_
  rintro e w3 ⟨r3, rfl, -, q3, rfl⟩
  have B3 := hid (below_drewN (n := q3) B2.out)
  generalize w2.drewN q3 = w3 at *
  clear B2
  cases r3 with
  | true =>
    go_wp2
    go_ret
    exact ⟨rfl, B3.out⟩
  | false =>
  have hla := hf.out.1
  have hlb := hg.out.1
  have hpa := hf.out.print
  have hpb := hg.out.print
  go_wp2_with fail
  refine (less_any _ _ a b w3 (h0.out.below B3.out) (h1.out.below B3.out)).mono ?_
  rintro e w4 ⟨rfl, b4⟩
  have B4 := hid (low' B3.out b4)
  clear b4 B3
  go_wp2_with fail
  refine (less_any _ _ b a w4 (h1.out.below B4.out) (h0.out.below B4.out)).mono ?_
  rintro e w5 ⟨rfl, b5⟩
  have B5 := hid (low' B4.out b5)
  clear b5 B4
  go_wp2_with fail
  refine (less_any _ _ b c w5 (h1.out.below B5.out) (h2.out.below B5.out)).mono ?_
  rintro e w6 ⟨rfl, b6⟩
  have B6 := hid (low' B5.out b6)
  clear b6 B5
  have hlr := hid (less_same a b)
  have hasym := hid (fun h : lessL a b = true => less_asym h)
  have htr := hid (fun (h : lessL a b = true) (k : lessL b c = true) => less_trans h k)
  cases hx : lessL a b with
  | true =>
    have hy := hasym.out hx
    rw [hx, hy] at hlr
    rw [hy]
    cases hz : lessL b c with
    | true =>
      have hac := hid (htr.out hx hz)
      clear hx hy hz hasym htr
      simp only [Bool.not_true, Bool.not_false, Bool.and_true] at hlr
      go_wp2_with fail
      refine (less_any _ _ a c w6 (h0.out.below B6.out) (h2.out.below B6.out)).mono ?_
      rintro e w7 ⟨rfl, b7⟩
      rw [hac.out]
      have B7 := hid (low' B6.out b7)
      clear b7 B6 hac
      go_wp2_with fail
      refine (less_any _ _ a a w7 (h0.out.below B7.out) (h0.out.below B7.out)).mono ?_
      rintro e w8 ⟨rfl, b8⟩
      rw [less_self a]
      have B8 := hid (low' B7.out b8)
      clear b8 B7
      go_wp2_with fail
      refine (may_any _ a w8 (h0.out.below B8.out)).mono ?_
      rintro e w10 ⟨rfl, b10⟩
      have B10 := hid (low' B8.out b10)
      clear b10 B8
      cases hma : mayL a with
      | false =>
        clear hma hlr
        go_wp2
        go_ret
        exact ⟨rfl, B10.out⟩
      | true =>
      go_wp2_with fail
      refine (may_any _ b w10 (h1.out.below B10.out)).mono ?_
      rintro e w11 ⟨rfl, b11⟩
      have B11 := hid (low' B10.out b11)
      clear b11 B10
      cases hmb : mayL b with
      | false =>
        clear hma hmb hlr
        go_wp2
        go_ret
        exact ⟨rfl, B11.out⟩
      | true =>
      have hpp := hid (print_same hma hmb)
      clear hma hmb
      go_wp2_with fail
      refine (same_any _ _ a b w11 (h0.out.below B11.out) (h1.out.below B11.out)).mono ?_
      rintro e w12 ⟨rfl, q12, rfl⟩
      have B12 := hid (below_drewN (n := q12) B11.out)
      generalize w11.drewN q12 = w12 at *
      clear B11
      rw [← hlr.out]
      go_wp2_with fail
      refine (print_any _ a w12 (h0.out.below B12.out) (by omega) (by omega)).mono ?_
      rintro e w13 ⟨rfl, b13⟩
      have B13 := hid (low' B12.out b13)
      clear b13 B12
      unfold str
      go_wp2_with fail
      refine (print_any _ b w13 (h1.out.below B13.out) (by omega) (by omega)).mono ?_
      rintro e w14 ⟨rfl, b14⟩
      have B14 := hid (low' B13.out b14)
      clear b14 B13
      unfold str
      replace hpp := hpp.out
      rw [← hlr.out] at hpp
      clear hpa hpb
      generalize printL a = pa at *
      generalize printL b = pb at *
      go_wp2
      go_ret
      exact ⟨by simp, B14.out⟩
    | false =>
      clear hx hy hz hasym htr
      simp only [Bool.not_true, Bool.not_false, Bool.and_true] at hlr
      go_wp2_with fail
      refine (less_any _ _ a a w6 (h0.out.below B6.out) (h0.out.below B6.out)).mono ?_
      rintro e w8 ⟨rfl, b8⟩
      rw [less_self a]
      have B8 := hid (low' B6.out b8)
      clear b8 B6
      go_wp2_with fail
      refine (may_any _ a w8 (h0.out.below B8.out)).mono ?_
      rintro e w10 ⟨rfl, b10⟩
      have B10 := hid (low' B8.out b10)
      clear b10 B8
      cases hma : mayL a with
      | false =>
        clear hma hlr
        go_wp2
        go_ret
        exact ⟨rfl, B10.out⟩
      | true =>
      go_wp2_with fail
      refine (may_any _ b w10 (h1.out.below B10.out)).mono ?_
      rintro e w11 ⟨rfl, b11⟩
      have B11 := hid (low' B10.out b11)
      clear b11 B10
      cases hmb : mayL b with
      | false =>
        clear hma hmb hlr
        go_wp2
        go_ret
        exact ⟨rfl, B11.out⟩
      | true =>
      have hpp := hid (print_same hma hmb)
      clear hma hmb
      go_wp2_with fail
      refine (same_any _ _ a b w11 (h0.out.below B11.out) (h1.out.below B11.out)).mono ?_
      rintro e w12 ⟨rfl, q12, rfl⟩
      have B12 := hid (below_drewN (n := q12) B11.out)
      generalize w11.drewN q12 = w12 at *
      clear B11
      rw [← hlr.out]
      go_wp2_with fail
      refine (print_any _ a w12 (h0.out.below B12.out) (by omega) (by omega)).mono ?_
      rintro e w13 ⟨rfl, b13⟩
      have B13 := hid (low' B12.out b13)
      clear b13 B12
      unfold str
      go_wp2_with fail
      refine (print_any _ b w13 (h1.out.below B13.out) (by omega) (by omega)).mono ?_
      rintro e w14 ⟨rfl, b14⟩
      have B14 := hid (low' B13.out b14)
      clear b14 B13
      unfold str
      replace hpp := hpp.out
      rw [← hlr.out] at hpp
      clear hpa hpb
      generalize printL a = pa at *
      generalize printL b = pb at *
      go_wp2
      go_ret
      exact ⟨by simp, B14.out⟩
  | false =>
    rw [hx] at hlr
    clear hx hasym htr
    simp only [Bool.not_false, Bool.true_and] at hlr
    generalize lessL b a = yy at *
    generalize lessL b c = zz at *
    go_wp2_with fail
    refine (less_any _ _ a a w6 (h0.out.below B6.out) (h0.out.below B6.out)).mono ?_
    rintro e w8 ⟨rfl, b8⟩
    rw [less_self a]
    have B8 := hid (low' B6.out b8)
    clear b8 B6
    go_wp2_with fail
    refine (may_any _ a w8 (h0.out.below B8.out)).mono ?_
    rintro e w10 ⟨rfl, b10⟩
    have B10 := hid (low' B8.out b10)
    clear b10 B8
    cases hma : mayL a with
    | false =>
      clear hma hlr
      go_wp2
      go_ret
      exact ⟨rfl, B10.out⟩
    | true =>
    go_wp2_with fail
    refine (may_any _ b w10 (h1.out.below B10.out)).mono ?_
    rintro e w11 ⟨rfl, b11⟩
    have B11 := hid (low' B10.out b11)
    clear b11 B10
    cases hmb : mayL b with
    | false =>
      clear hma hmb hlr
      go_wp2
      go_ret
      exact ⟨rfl, B11.out⟩
    | true =>
    have hpp := hid (print_same hma hmb)
    clear hma hmb
    go_wp2_with fail
    refine (same_any _ _ a b w11 (h0.out.below B11.out) (h1.out.below B11.out)).mono ?_
    rintro e w12 ⟨rfl, q12, rfl⟩
    have B12 := hid (below_drewN (n := q12) B11.out)
    generalize w11.drewN q12 = w12 at *
    clear B11
    rw [← hlr.out]
    go_wp2_with fail
    refine (print_any _ a w12 (h0.out.below B12.out) (by omega) (by omega)).mono ?_
    rintro e w13 ⟨rfl, b13⟩
    have B13 := hid (low' B12.out b13)
    clear b13 B12
    unfold str
    go_wp2_with fail
    refine (print_any _ b w13 (h1.out.below B13.out) (by omega) (by omega)).mono ?_
    rintro e w14 ⟨rfl, b14⟩
    have B14 := hid (low' B13.out b14)
    clear b14 B13
    unfold str
    replace hpp := hpp.out
    rw [← hlr.out] at hpp
    clear hpa hpb
    generalize printL a = pa at *
    generalize printL b = pb at *
    go_wp2
    go_ret
    exact ⟨by simp, B14.out⟩

theorem own : ownKnob Try.prog.godebug = none := by kernel_rfl
theorem laidOut : laidOutB Try.prog = true := by kernel_rfl

set_option maxRecDepth 100000 in
theorem lifted (os : Os) (started : os.Started) (H : Type) (enc : TypeId × Value → H) :
    ReturnsInHanded {} Try.checked os 7 .any (Rows.labelsOrderSpec.pre6 enc Try.prog Try.f7 Rows.labelsOrderRow.domain false) (Rows.labelsOrderSpec.post enc Try.prog Try.f7 false true false false) := by
  refine returnsInHanded_of_change (C := Try.checked) own started (by kernel_rfl) Try.func7
    (ChangeSpec.witness6 (enc := enc) (C := Try.checked) false ⟨#[], #[.slice none 0 0, .slice none 0 0, .slice none 0 0], []⟩ 8 (by kernel_rfl) (by kernel_rfl) (by kernel_rfl) (by kernel_rfl)) ?_
  intro W base args ds gs before hval0 hW hcnd _
  have hval : ∀ (j : Nat) t v, Try.f7.params[j]? = some t → args[j]? = some v → Value.okWide Try.prog W .any base t v := hval0
  have hW' := hW
  obtain ⟨p, q, hA0, hV, rfl, hfz, hnd⟩ := hW
  have hA : DataW.TrodAll enc Try.prog W 0 (fun _ => true) true Try.f7.params.toList args.toList ds p := hA0
  rw [Try.params7] at hA hval
  obtain ⟨v0, vs0, d0, ds0, p0, q0, hargs, rfl, rfl, h0, r0⟩ := trodAll_cons hA
  obtain ⟨v1, vs1, d1, ds1, p1, q1, rfl, rfl, rfl, h1, r1⟩ := trodAll_cons r0
  obtain ⟨v2, vs2, d2, ds2, p2, q2, rfl, rfl, rfl, h2, r2⟩ := trodAll_cons r1
  obtain ⟨rfl, rfl, rfl⟩ := trodAll_nil r2
  obtain rfl : args = #[v0, v1, v2] := by cases args; simp_all
  obtain ⟨rfl, rfl⟩ := trodVars_none hV
  have k0 := h0
  have lt0 : ∀ x ∈ p0, x.block < W.heap.size := by obtain ⟨m, hm⟩ := k0; exact DataW.trod_lt m _ _ _ hm
  obtain ⟨l0, w0⟩ := open_labs (hval 0 22 v0 rfl rfl) h0
  have k1 := h1
  have lt1 : ∀ x ∈ p1, x.block < W.heap.size := by obtain ⟨m, hm⟩ := k1; exact DataW.trod_lt m _ _ _ hm
  obtain ⟨l1, w1⟩ := open_labs (hval 1 22 v1 rfl rfl) h1
  have k2 := h2
  have lt2 : ∀ x ∈ p2, x.block < W.heap.size := by obtain ⟨m, hm⟩ := k2; exact DataW.trod_lt m _ _ _ hm
  obtain ⟨l2, w2⟩ := open_labs (hval 2 22 v2 rfl rfl) h2
  clear hA0 hval0
  refine (walk v0 l0 v1 l1 v2 l2 W w0 w1 w2).mono fun e W' ⟨he, bel⟩ => ?_
  subst he
  exact ⟨_, rfl, _, _, _, [], _, [], hW', trodAll_mk1 (shut_bool Try.underlying4 _), (trodAll_cons_mk (Below.trod laidOut (by kernel_rfl) (of_decide_eq_true (by kernel_rfl)) k0 bel lt0) (trodAll_cons_mk (Below.trod laidOut (by kernel_rfl) (of_decide_eq_true (by kernel_rfl)) k1 bel lt1) (trodAll_cons_mk (Below.trod laidOut (by kernel_rfl) (of_decide_eq_true (by kernel_rfl)) k2 bel lt2) trodAll_mk0))), rfl, bel.frame _, fun h => by cases h⟩

theorem over : Rows.labelsOrderRow.holds Try.pinned (OpenSpec.ofChange Rows.labelsOrderSpec) :=
  OpenClaim.holds_of_wide 7 Try.f7 rfl rfl rfl rfl rfl rfl rfl ⟨rfl, rfl, rfl, rfl, rfl⟩ rfl rfl rfl rfl rfl (by kernel_rfl) Try.func7 (by kernel_rfl)
    (of_decide_eq_true (by kernel_rfl)) (by unfold Func.isWrapper; first | (rw [if_pos (by decide +kernel)]; kernel_rfl) | (rw [if_neg (by decide +kernel)]; exact ⟨rfl, rfl⟩))
    (fun os started H enc _ => lifted os started H enc)

theorem proved : Rows.LabelsOrderSaid := over
#print axioms proved

end Go.Proofs.Ythcbekccnmdgaaa.labelsOrder
