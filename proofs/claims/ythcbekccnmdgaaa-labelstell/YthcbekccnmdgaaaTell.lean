/- For any labels, any name and value the law LabelsTell of the program returns true and leaves them as they were. No condition. -/
import Derived.Test.YthcbekccnmdgaaaG
import Derived.Test.YthcbekccnmdgaaaQ3
import Derived.Test.YthcbekccnmdgaaaR2
namespace Go.Proofs.Ythcbekccnmdgaaa.labelsTell
open Go.ChangeShapes Go.WideShapes Go.ChangeAt Go.RowKit
open Go.ChangeMaps (open_string shut_string)
set_option linter.unusedVariables false

set_option maxHeartbeats 4000000 in
theorem walk1 (v0 : Value) (l : List Lb) (n x : Tx) (w : World) (h0 : IsLs w v0 l) (hn : n.length ≤ maxLen) (hx : x.length ≤ maxLen) :
    Calls Try.prog 3 #[v0, str n, str x] w fun e w' => e = .returned (.bool true) ∧ Below w.heap.size w w' := by
  obtain ⟨a0, c0, rfl⟩ := h0.slice
  replace h0 := hid h0
  unfold maxLen at hn hx
  unfold str
  go_enter Try.func3, Try.ntmps3
  go_wp2_with fail
  refine (great_any _ l w h0.out).mono ?_
  rintro e w1 ⟨r1, rfl, hf, q1, rfl⟩
  have B1 := hid (below_drewN (n := q1) (Below.refl w.heap.size w))
  generalize w.drewN q1 = w1 at *
  cases r1 with
  | true =>
    clear hf
    go_wp2
    go_ret
    exact ⟨rfl, B1.out⟩
  | false =>
    replace hf := hid (hf rfl)
    by_cases hn5 : 5000 < n.length
    · have hn5' : decide (5000 < (n.length : Int)) = true := by simp; omega
      have hn5'' : decide (5000 < n.length) = true := by simp; omega
      go_wp2
      go_ret
      exact ⟨rfl, B1.out⟩
    · have hn5' : decide (5000 < (n.length : Int)) = false := by simp; omega
      have hn5'' : decide (5000 < n.length) = false := by simp; omega
      by_cases hx5 : 5000 < x.length
      · have hx5' : decide (5000 < (x.length : Int)) = true := by simp; omega
        have hx5'' : decide (5000 < x.length) = true := by simp; omega
        go_wp2
        go_ret
        exact ⟨rfl, B1.out⟩
      · have hx5' : decide (5000 < (x.length : Int)) = false := by simp; omega
        have hx5'' : decide (5000 < x.length) = false := by simp; omega
        have hl := hf.out.1
        go_wp2_with fail
        refine (copy_any _ l w1 (h0.out.below B1.out) (by omega)).mono ?_
        rintro e w2 ⟨a2, c2, rfl, o2, b2⟩
        have B2 := hid (low' B1.out b2)
        replace o2 := hid o2
        clear b2 B1
        have hpl := hf.out.print
        go_wp2_with fail
        refine (may_any _ l w2 o2.out.isL).mono ?_
        rintro e w3 ⟨rfl, b3⟩
        have B3 := hid (low' B2.out b3)
        have o3 := hid (o2.out.below b3)
        clear b3 B2 o2
        go_wp2_with fail
        refine (rmay_any _ l w3 (h0.out.below B3.out)).mono ?_
        rintro e w4 ⟨rfl, q4, rfl⟩
        have B4 := hid (below_drewN (n := q4) B3.out)
        have o4 := hid (o3.out.below (below_drewN (n := q4) (Below.refl _ _)))
        clear B3 o3
        generalize w3.drewN q4 = w4 at *
        generalize mayL l = r at *
        have hr : (r == r) = true := by simp
        go_wp2_with fail
        refine (print_any _ l w4 o4.out.isL (by omega) (by omega)).mono ?_
        rintro e w5 ⟨rfl, b5⟩
        have B5 := hid (low' B4.out b5)
        have o5 := hid (o4.out.below b5)
        clear b5 B4 o4
        go_wp2_with fail
        refine (rprint_any _ l w5 (h0.out.below B5.out) (by omega)).mono ?_
        rintro e w6 ⟨rfl, q6, rfl⟩
        have B6 := hid (below_drewN (n := q6) B5.out)
        have o6 := hid (o5.out.below (below_drewN (n := q6) (Below.refl _ _)))
        clear B5 o5 hpl
        generalize w5.drewN q6 = w6 at *
        generalize printL l = p at *
        unfold str
        go_wp2_with fail
        refine (value_any _ l n w6 o6.out.isL).mono ?_
        rintro e w7 ⟨rfl, b7⟩
        have B7 := hid (low' B6.out b7)
        have o7 := hid (o6.out.below b7)
        clear b7 B6 o6
        go_wp2_with fail
        refine (rvalue_any _ l n w7 (h0.out.below B7.out)).mono ?_
        rintro e w8 ⟨rfl, hw8⟩
        subst hw8
        generalize valueL l n = vv at *
        unfold str
        go_wp2_with fail
        refine (mayName_any n _ (by omega)).mono ?_
        rintro e w8 ⟨rfl, hw8⟩
        subst hw8
        go_wp2_with fail
        refine (rmayName_any n (by omega) _).mono ?_
        rintro e w8 ⟨rfl, hw8⟩
        subst hw8
        generalize mayN n = rn at *
        go_wp2_with fail
        refine (mayValue_any x _ (by omega)).mono ?_
        rintro e w8 ⟨rfl, hw8⟩
        subst hw8
        go_wp2_with fail
        refine (rmayValue_any x (by omega) _).mono ?_
        rintro e w8 ⟨rfl, hw8⟩
        subst hw8
        generalize mayV x = rx at *
        go_wp2_with fail
        refine (quote_any x _ (by omega)).mono ?_
        rintro e w9 ⟨rfl, b9⟩
        have B9 := hid (low' B7.out b9)
        have o9 := hid (o7.out.below b9)
        clear b9 B7 o7
        go_wp2_with fail
        refine (rquote_any x _ (by omega)).mono ?_
        rintro e w10 ⟨rfl, hw10⟩
        subst hw10
        generalize quote x = qx at *
        unfold str
        go_wp2_with fail
        refine (same_any _ _ l l _ o9.out.isL (h0.out.below B9.out)).mono ?_
        rintro e w11 ⟨rfl, q11, rfl⟩
        go_wp2
        go_ret
        exact ⟨by simp, below_drewN B9.out⟩
theorem walk (v0 : Value) (l : List Lb) (n x : ByteArray) (w : World) (h0 : IsLs w v0 l) (hn : n.size ≤ maxLen) (hx : x.size ≤ maxLen) :
    Calls Try.prog 3 #[v0, .string n, .string x] w fun e w' => e = .returned (.bool true) ∧ Below w.heap.size w w' := by
  rw [str_of n, str_of x]
  exact walk1 v0 l _ _ w h0 hn hx

theorem own : ownKnob Try.prog.godebug = none := by kernel_rfl
theorem laidOut : laidOutB Try.prog = true := by kernel_rfl

set_option maxRecDepth 100000 in
theorem lifted (os : Os) (started : os.Started) (H : Type) (enc : TypeId × Value → H) :
    ReturnsInHanded {} Try.checked os 3 .any (Rows.labelsTellSpec.pre6 enc Try.prog Try.f3 Rows.labelsTellRow.domain false) (Rows.labelsTellSpec.post enc Try.prog Try.f3 false true false false) := by
  refine returnsInHanded_of_change (C := Try.checked) own started (by kernel_rfl) Try.func3
    (ChangeSpec.witness6 (enc := enc) (C := Try.checked) false ⟨#[], #[.slice none 0 0, .string ⟨#[]⟩, .string ⟨#[]⟩], []⟩ 8 (by kernel_rfl) (by kernel_rfl) (by kernel_rfl) (by kernel_rfl)) ?_
  intro W base args ds gs before hval0 hW hcnd _
  have hval : ∀ (j : Nat) t v, Try.f3.params[j]? = some t → args[j]? = some v → Value.okWide Try.prog W .any base t v := hval0
  have hW' := hW
  obtain ⟨p, q, hA0, hV, rfl, hfz, hnd⟩ := hW
  have hA : DataW.TrodAll enc Try.prog W 0 (fun _ => true) true Try.f3.params.toList args.toList ds p := hA0
  rw [Try.params3] at hA hval
  obtain ⟨v0, vs0, d0, ds0, p0, q0, hargs, rfl, rfl, h0, r0⟩ := trodAll_cons hA
  obtain ⟨v1, vs1, d1, ds1, p1, q1, rfl, rfl, rfl, h1, r1⟩ := trodAll_cons r0
  obtain ⟨v2, vs2, d2, ds2, p2, q2, rfl, rfl, rfl, h2, r2⟩ := trodAll_cons r1
  obtain ⟨rfl, rfl, rfl⟩ := trodAll_nil r2
  obtain rfl : args = #[v0, v1, v2] := by cases args; simp_all
  obtain ⟨rfl, rfl⟩ := trodVars_none hV
  have k0 := h0
  have lt0 : ∀ x ∈ p0, x.block < W.heap.size := by obtain ⟨m, hm⟩ := k0; exact DataW.trod_lt m _ _ _ hm
  obtain ⟨l0, w0⟩ := open_labs (hval 0 22 v0 rfl rfl) h0
  obtain ⟨a1, rfl, rfl, rfl, w1⟩ := open_string Try.underlying9 (hval 1 9 v1 rfl rfl) h1
  obtain ⟨a2, rfl, rfl, rfl, w2⟩ := open_string Try.underlying9 (hval 2 9 v2 rfl rfl) h2
  clear hA0 hval0
  refine (walk v0 l0 a1 a2 W w0 w1 w2).mono fun e W' ⟨he, bel⟩ => ?_
  subst he
  exact ⟨_, rfl, _, _, _, [], _, [], hW', trodAll_mk1 (shut_bool Try.underlying4 _), (trodAll_cons_mk (Below.trod laidOut (by kernel_rfl) (of_decide_eq_true (by kernel_rfl)) k0 bel lt0) (trodAll_cons_mk (shut_string Try.underlying9 w1) (trodAll_cons_mk (shut_string Try.underlying9 w2) trodAll_mk0))), rfl, bel.frame _, fun h => by cases h⟩

theorem over : Rows.labelsTellRow.holds Try.pinned (OpenSpec.ofChange Rows.labelsTellSpec) :=
  OpenClaim.holds_of_wide 3 Try.f3 rfl rfl rfl rfl rfl rfl rfl ⟨rfl, rfl, rfl, rfl, rfl⟩ rfl rfl rfl rfl rfl (by kernel_rfl) Try.func3 (by kernel_rfl)
    (of_decide_eq_true (by kernel_rfl)) (by unfold Func.isWrapper; first | (rw [if_pos (by decide +kernel)]; kernel_rfl) | (rw [if_neg (by decide +kernel)]; exact ⟨rfl, rfl⟩))
    (fun os started H enc _ => lifted os started H enc)

theorem proved : Rows.LabelsTellSaid := over
#print axioms proved

end Go.Proofs.Ythcbekccnmdgaaa.labelsTell
