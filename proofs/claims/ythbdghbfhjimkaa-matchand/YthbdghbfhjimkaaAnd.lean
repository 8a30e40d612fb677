/- For any two rows of matchers and any labels the law MatchAnd of the program returns true and leaves them as they were: two rows one behind the other hold just where both do. No condition. -/
import Derived.Test.YthbdghbfhjimkaaG8
import Derived.Test.YthbdghbfhjimkaaA8
import Derived.Test.YthbdghbfhjimkaaX1
namespace Go.Proofs.Ythbdghbfhjimkaa.matchAnd
open Go.ChangeShapes Go.WideShapes Go.ChangeAt Go.RowKit
open Go.ChangeMaps (open_string shut_string)
set_option linter.unusedVariables false

theorem isLs_nil (w : World) : IsLs w (.slice none 0 0) [] := (ownL_nil 0 w).isL
set_option maxRecDepth 100000 in
set_option maxHeartbeats 4000000 in
theorem walk (v0 : Value) (a : List Mt) (v1 : Value) (b : List Mt) (v2 : Value) (l : List Lb) (w : World) (h0 : IsMs w v0 a) (h1 : IsMs w v1 b) (h2 : IsLs w v2 l) :
    Calls Try.prog 6 #[v0, v1, v2] w fun e w' => e = .returned (.bool true) ∧ Below w.heap.size w w' := by
  obtain ⟨a0, c0, rfl⟩ := h0.slice
  obtain ⟨a1, c1, rfl⟩ := h1.slice
  obtain ⟨a2, c2, rfl⟩ := h2.slice
  obtain ⟨-, hb0⟩ := h0.bound
  obtain ⟨-, hb1⟩ := h1.bound
  obtain ⟨-, hb2⟩ := h2.bound
  replace h0 := hid h0
  replace h1 := hid h1
  replace h2 := hid h2
  go_enter Try.func6, Try.ntmps6
  go_wp2_with fail
  refine (awake_any w).mono ?_
  rintro e w3 ⟨rfl, b3⟩
  have B3 := hid b3
  clear b3
  go_wp2_with fail
  refine (great_any _ _ a l w3 (h0.out.below B3.out) (h2.out.below B3.out)).mono ?_
  rintro e w4 ⟨r4, rfl, hf4, q4, rfl⟩
  have B4 := hid (below_drewN (n := q4) B3.out)
  generalize w3.drewN q4 = w4 at *
  clear B3
  cases r4 with
  | true =>
    clear hf4
    go_wp2
    go_ret
    exact ⟨rfl, B4.out⟩
  | false =>
    replace hf4 := hid (hf4 rfl)
    go_wp2_with fail
    refine (great_any _ _ b [] w4 (h1.out.below B4.out) (isLs_nil _)).mono ?_
    rintro e w5 ⟨r5, rfl, hf5, q5, rfl⟩
    have B5 := hid (below_drewN (n := q5) B4.out)
    generalize w4.drewN q5 = w5 at *
    clear B4
    cases r5 with
    | true =>
      clear hf5
      go_wp2
      go_ret
      exact ⟨rfl, B5.out⟩
    | false =>
      replace hf5 := hid (hf5 rfl)
      have hla := hf4.out.1
      have hlb := hf5.out.1
      go_wp2_with fail
      refine (copyM_any _ a w5 (h0.out.below B5.out) (by omega)).mono ?_
      rintro e w6 ⟨a6, c6, rfl, o6, b6⟩
      have B6 := hid (low' B5.out b6)
      obtain ⟨a7, c7, w7, hrun, o7, hg, -⟩ := appM_run o6 (h1.out.below B6.out) (by omega) b6.size
      have B7 := hid (B6.out.trans ((appM_low o6 b6.size hg).mono B5.out.size))
      have o7' := hid o7.isM
      clear b6 o6 o7 hg B6 B5
      go_wp2_with (at_builtin; refine wpList_append_run _ rfl _ _ 22 rfl _ _ _ _ rfl rfl hrun ?_)
      refine (does_any _ _ (a ++ b) l w7 o7'.out (h2.out.below B7.out)).mono ?_
      rintro e w8 ⟨rfl, b8⟩
      have B8 := hid (low' B7.out b8)
      clear b8 B7 o7'
      go_wp2_with fail
      refine (does_any _ _ a l w8 (h0.out.below B8.out) (h2.out.below B8.out)).mono ?_
      rintro e w9 ⟨rfl, b9⟩
      have B9 := hid (low' B8.out b9)
      clear b9 B8
      rw [does_app]
      cases da : doesM a l with
      | false =>
        go_wp2
        go_ret
        exact ⟨rfl, B9.out⟩
      | true =>
        go_wp2_with fail
        refine (does_any _ _ b l w9 (h1.out.below B9.out) (h2.out.below B9.out)).mono ?_
        rintro e w10 ⟨rfl, b10⟩
        have B10 := hid (low' B9.out b10)
        clear b10 B9
        cases doesM b l
        · go_wp2
          go_ret
          exact ⟨rfl, B10.out⟩
        · go_wp2
          go_ret
          exact ⟨rfl, B10.out⟩

theorem own : ownKnob Try.prog.godebug = none := by kernel_rfl
theorem laidOut : laidOutB Try.prog = true := by kernel_rfl

set_option maxRecDepth 100000 in
theorem lifted (os : Os) (started : os.Started) (H : Type) (enc : TypeId × Value → H) :
    ReturnsInHanded {} Try.checked os 6 .any (Rows.matchAndSpec.pre6 enc Try.prog Try.f6 Rows.matchAndRow.domain false) (Rows.matchAndSpec.post enc Try.prog Try.f6 false true false false) := by
  refine returnsInHanded_of_change (C := Try.checked) own started (by kernel_rfl) Try.func6
    (ChangeSpec.witness6 (enc := enc) (C := Try.checked) false ⟨#[], #[.slice none 0 0, .slice none 0 0, .slice none 0 0], []⟩ 8 (by kernel_rfl) (by kernel_rfl) (by kernel_rfl) (by kernel_rfl)) ?_
  intro W base args ds gs before hval0 hW hcnd _
  have hval : ∀ (j : Nat) t v, Try.f6.params[j]? = some t → args[j]? = some v → Value.okWide Try.prog W .any base t v := hval0
  have hW' := hW
  obtain ⟨p, q, hA0, hV, rfl, hfz, hnd⟩ := hW
  have hA : DataW.TrodAll enc Try.prog W 0 (fun _ => true) true Try.f6.params.toList args.toList ds p := hA0
  rw [Try.params6] at hA hval
  obtain ⟨v0, vs0, d0, ds0, p0, q0, hargs, rfl, rfl, h0, r0⟩ := trodAll_cons hA
  obtain ⟨v1, vs1, d1, ds1, p1, q1, rfl, rfl, rfl, h1, r1⟩ := trodAll_cons r0
  obtain ⟨v2, vs2, d2, ds2, p2, q2, rfl, rfl, rfl, h2, r2⟩ := trodAll_cons r1
  obtain ⟨rfl, rfl, rfl⟩ := trodAll_nil r2
  obtain rfl : args = #[v0, v1, v2] := by cases args; simp_all
  obtain ⟨rfl, rfl⟩ := trodVars_none hV
  have k0 := h0
  have lt0 : ∀ x ∈ p0, x.block < W.heap.size := by obtain ⟨m, hm⟩ := k0; exact DataW.trod_lt m _ _ _ hm
  obtain ⟨l0, w0⟩ := open_mats (hval 0 22 v0 rfl rfl) h0
  have k1 := h1
  have lt1 : ∀ x ∈ p1, x.block < W.heap.size := by obtain ⟨m, hm⟩ := k1; exact DataW.trod_lt m _ _ _ hm
  obtain ⟨l1, w1⟩ := open_mats (hval 1 22 v1 rfl rfl) h1
  have k2 := h2
  have lt2 : ∀ x ∈ p2, x.block < W.heap.size := by obtain ⟨m, hm⟩ := k2; exact DataW.trod_lt m _ _ _ hm
  obtain ⟨l2, w2⟩ := open_labs (hval 2 23 v2 rfl rfl) h2
  clear hA0 hval0
  refine (walk v0 l0 v1 l1 v2 l2 W w0 w1 w2).mono fun e W' ⟨he, bel⟩ => ?_
  subst he
  exact ⟨_, rfl, _, _, _, [], _, [], hW', trodAll_mk1 (shut_bool Try.underlying4 _), (trodAll_cons_mk (Below.trod laidOut (by kernel_rfl) (of_decide_eq_true (by kernel_rfl)) k0 bel lt0) (trodAll_cons_mk (Below.trod laidOut (by kernel_rfl) (of_decide_eq_true (by kernel_rfl)) k1 bel lt1) (trodAll_cons_mk (Below.trod laidOut (by kernel_rfl) (of_decide_eq_true (by kernel_rfl)) k2 bel lt2) trodAll_mk0))), rfl, bel.frame _, fun h => by cases h⟩

theorem over : Rows.matchAndRow.holds Try.pinned (OpenSpec.ofChange Rows.matchAndSpec) :=
  OpenClaim.holds_of_wide 6 Try.f6 rfl rfl rfl rfl rfl rfl rfl ⟨rfl, rfl, rfl, rfl, rfl⟩ rfl rfl rfl rfl rfl (by kernel_rfl) Try.func6 (by kernel_rfl)
    (of_decide_eq_true (by kernel_rfl)) (by unfold Func.isWrapper; first | (rw [if_pos (by decide +kernel)]; kernel_rfl) | (rw [if_neg (by decide +kernel)]; exact ⟨rfl, rfl⟩))
    (fun os started H enc _ => lifted os started H enc)

theorem proved : Rows.MatchAndSaid := over
#print axioms proved

end Go.Proofs.Ythbdghbfhjimkaa.matchAnd
