/- For any matchers and any labels the law MatchTells of the program returns true and leaves them as they were: whether they may be, their text, whether they hold is what the chapter says. No condition. -/
import Derived.Test.YthbdghbfhjimkaaG8
import Derived.Test.YthbdghbfhjimkaaX2
import Derived.Test.YthbdghbfhjimkaaX3
namespace Go.Proofs.Ythbdghbfhjimkaa.matchTells
open Go.ChangeShapes Go.WideShapes Go.ChangeAt Go.RowKit
open Go.ChangeMaps (open_string shut_string)
set_option linter.unusedVariables false

set_option maxRecDepth 100000 in
set_option maxHeartbeats 2000000 in
theorem walk (v0 : Value) (m : List Mt) (v1 : Value) (l : List Lb) (w : World) (h0 : IsMs w v0 m) (h1 : IsLs w v1 l) :
    Calls Try.prog 3 #[v0, v1] w fun e w' => e = .returned (.bool true) ∧ Below w.heap.size w w' := by
  obtain ⟨a0, c0, rfl⟩ := h0.slice
  obtain ⟨a1, c1, rfl⟩ := h1.slice
  replace h0 := hid h0
  replace h1 := hid h1
  go_enter Try.func3, Try.ntmps3
  go_wp2_with fail
  refine (great_any _ _ m l w h0.out h1.out).mono ?_
  rintro e w1 ⟨r1, rfl, hf, q1, rfl⟩
  have B1 := hid (below_drewN (n := q1) (Below.refl w.heap.size w))
  generalize w.drewN q1 = w1 at *
  cases r1 with
  | true =>
    clear hf
    go_wp2
    go_ret
    exact ⟨rfl, B1.out⟩
  | false =>
    replace hf := hid (hf rfl)
    have hm := hf.out.1
    have hl := hf.out.2.1
    have hpl := hf.out.print
    have hlm := hid (fun x (hx : x ∈ l) => show x.2.length ≤ 4000000000 by have := hf.out.atL hx; omega)
    go_wp2_with fail
    refine (copyM_any _ m w1 (h0.out.below B1.out) (by omega)).mono ?_
    rintro e w2 ⟨a2, c2, rfl, o2, b2⟩
    have B2 := hid (low' B1.out b2)
    replace o2 := hid o2
    clear b2 B1
    go_wp2_with fail
    refine (copy_any _ l w2 (h1.out.below B2.out) (by omega)).mono ?_
    rintro e w3 ⟨a3, c3, rfl, p3, b3⟩
    have B3 := hid (low' B2.out b3)
    have o3 := hid (o2.out.below b3)
    replace p3 := hid p3
    clear b3 B2 o2
    go_wp2_with fail
    refine (mmay_any _ m w3 o3.out.isM).mono ?_
    rintro e w4 ⟨rfl, b4⟩
    have B4 := hid (low' B3.out b4)
    have o4 := hid (o3.out.below b4)
    have p4 := hid (p3.out.below b4)
    clear b4 B3 o3 p3
    go_wp2_with fail
    refine (rmay_any _ m w4 (h0.out.below B4.out)).mono ?_
    rintro e w5 ⟨rfl, q5, rfl⟩
    have B5 := hid (below_drewN (n := q5) B4.out)
    have o5 := hid (o4.out.below (below_drewN (n := q5) (Below.refl _ _)))
    have p5 := hid (p4.out.below (below_drewN (n := q5) (Below.refl _ _)))
    clear B4 o4 p4
    generalize w4.drewN q5 = w5 at *
    generalize mayM m = r at *
    have hr : (r == r) = true := by simp
    go_wp2_with fail
    refine (mprint_any _ m w5 o5.out.isM (by omega) (by omega)).mono ?_
    rintro e w6 ⟨rfl, b6⟩
    have B6 := hid (low' B5.out b6)
    have o6 := hid (o5.out.below b6)
    have p6 := hid (p5.out.below b6)
    clear b6 B5 o5 p5
    go_wp2_with fail
    refine (rprint_any _ m w6 (h0.out.below B6.out) (by omega)).mono ?_
    rintro e w7 ⟨rfl, q7, rfl⟩
    have B7 := hid (below_drewN (n := q7) B6.out)
    have o7 := hid (o6.out.below (below_drewN (n := q7) (Below.refl _ _)))
    have p7 := hid (p6.out.below (below_drewN (n := q7) (Below.refl _ _)))
    clear B6 o6 p6 hpl
    generalize w6.drewN q7 = w7 at *
    generalize printM m = p at *
    unfold str
    go_wp2_with fail
    refine (does_any _ _ m l w7 o7.out.isM p7.out.isL).mono ?_
    rintro e w8 ⟨rfl, b8⟩
    have B8 := hid (low' B7.out b8)
    have o8 := hid (o7.out.below b8)
    have p8 := hid (p7.out.below b8)
    clear b8 B7 o7 p7
    go_wp2_with fail
    refine (rdoes_any _ _ m l w8 (h0.out.below B8.out) (h1.out.below B8.out) hlm.out).mono ?_
    rintro e w9 ⟨rfl, q9, rfl⟩
    have B9 := hid (below_drewN (n := q9) B8.out)
    have o9 := hid (o8.out.below (below_drewN (n := q9) (Below.refl _ _)))
    have p9 := hid (p8.out.below (below_drewN (n := q9) (Below.refl _ _)))
    clear B8 o8 p8
    generalize w8.drewN q9 = w9 at *
    generalize doesM m l = d at *
    have hd : (d == d) = true := by simp
    have hmm : (m == m) = true := by simp
    have hll : (l == l) = true := by simp
    go_wp2_with fail
    refine (sameM_any _ _ m m w9 o9.out.isM (h0.out.below B9.out)).mono ?_
    rintro e w10 ⟨rfl, q10, rfl⟩
    rw [hmm]
    have B10 := hid (below_drewN (n := q10) B9.out)
    have p10 := hid (p9.out.below (below_drewN (n := q10) (Below.refl _ _)))
    clear B9 o9 p9
    generalize w9.drewN q10 = w10 at *
    go_wp2_with fail
    refine (same_any _ _ l l w10 p10.out.isL (h1.out.below B10.out)).mono ?_
    rintro e w11 ⟨rfl, q11, rfl⟩
    rw [hll]
    go_wp2
    go_ret
    exact ⟨rfl, below_drewN B10.out⟩

theorem own : ownKnob Try.prog.godebug = none := by kernel_rfl
theorem laidOut : laidOutB Try.prog = true := by kernel_rfl

set_option maxRecDepth 100000 in
theorem lifted (os : Os) (started : os.Started) (H : Type) (enc : TypeId × Value → H) :
    ReturnsInHanded {} Try.checked os 3 .any (Rows.matchTellsSpec.pre6 enc Try.prog Try.f3 Rows.matchTellsRow.domain false) (Rows.matchTellsSpec.post enc Try.prog Try.f3 false true false false) := by
  refine returnsInHanded_of_change (C := Try.checked) own started (by kernel_rfl) Try.func3
    (ChangeSpec.witness6 (enc := enc) (C := Try.checked) false ⟨#[], #[.slice none 0 0, .slice none 0 0], []⟩ 8 (by kernel_rfl) (by kernel_rfl) (by kernel_rfl) (by kernel_rfl)) ?_
  intro W base args ds gs before hval0 hW hcnd _
  have hval : ∀ (j : Nat) t v, Try.f3.params[j]? = some t → args[j]? = some v → Value.okWide Try.prog W .any base t v := hval0
  have hW' := hW
  obtain ⟨p, q, hA0, hV, rfl, hfz, hnd⟩ := hW
  have hA : DataW.TrodAll enc Try.prog W 0 (fun _ => true) true Try.f3.params.toList args.toList ds p := hA0
  rw [Try.params3] at hA hval
  obtain ⟨v0, vs0, d0, ds0, p0, q0, hargs, rfl, rfl, h0, r0⟩ := trodAll_cons hA
  obtain ⟨v1, vs1, d1, ds1, p1, q1, rfl, rfl, rfl, h1, r1⟩ := trodAll_cons r0
  obtain ⟨rfl, rfl, rfl⟩ := trodAll_nil r1
  obtain rfl : args = #[v0, v1] := by cases args; simp_all
  obtain ⟨rfl, rfl⟩ := trodVars_none hV
  have k0 := h0
  have lt0 : ∀ x ∈ p0, x.block < W.heap.size := by obtain ⟨m, hm⟩ := k0; exact DataW.trod_lt m _ _ _ hm
  obtain ⟨l0, w0⟩ := open_mats (hval 0 22 v0 rfl rfl) h0
  have k1 := h1
  have lt1 : ∀ x ∈ p1, x.block < W.heap.size := by obtain ⟨m, hm⟩ := k1; exact DataW.trod_lt m _ _ _ hm
  obtain ⟨l1, w1⟩ := open_labs (hval 1 23 v1 rfl rfl) h1
  clear hA0 hval0
  refine (walk v0 l0 v1 l1 W w0 w1).mono fun e W' ⟨he, bel⟩ => ?_
  subst he
  exact ⟨_, rfl, _, _, _, [], _, [], hW', trodAll_mk1 (shut_bool Try.underlying4 _), (trodAll_cons_mk (Below.trod laidOut (by kernel_rfl) (of_decide_eq_true (by kernel_rfl)) k0 bel lt0) (trodAll_cons_mk (Below.trod laidOut (by kernel_rfl) (of_decide_eq_true (by kernel_rfl)) k1 bel lt1) trodAll_mk0)), rfl, bel.frame _, fun h => by cases h⟩

theorem over : Rows.matchTellsRow.holds Try.pinned (OpenSpec.ofChange Rows.matchTellsSpec) :=
  OpenClaim.holds_of_wide 3 Try.f3 rfl rfl rfl rfl rfl rfl rfl ⟨rfl, rfl, rfl, rfl, rfl⟩ rfl rfl rfl rfl rfl (by kernel_rfl) Try.func3 (by kernel_rfl)
    (of_decide_eq_true (by kernel_rfl)) (by unfold Func.isWrapper; first | (rw [if_pos (by decide +kernel)]; kernel_rfl) | (rw [if_neg (by decide +kernel)]; exact ⟨rfl, rfl⟩))
    (fun os started H enc _ => lifted os started H enc)

theorem proved : Rows.MatchTellsSaid := over
#print axioms proved

end Go.Proofs.Ythbdghbfhjimkaa.matchTells
