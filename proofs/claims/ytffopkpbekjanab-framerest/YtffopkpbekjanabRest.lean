/- For any two slices of bytes the law FrameRest of the program returns true and leaves the bytes as they were: what stands behind a frame changes nothing of what Next tells. No condition. -/
import Derived.Test.YtffopkpbekjanabAwake
import Derived.Test.YtffopkpbekjanabOpen
import Derived.Test.YtffopkpbekjanabWh
namespace Go.Proofs.Ytffopkpbekjanab.frameRest
open Go.ChangeShapes Go.WideShapes Go.ChangeAt Go.RowKit
set_option linter.unusedVariables false

theorem below_drewN {w w' : World} {B n : Nat} (h : Below B w w') : Below B w (w'.drewN n) := h.trans ⟨rfl, rfl, rfl, Nat.le_refl _, fun _ _ => rfl⟩
set_option maxHeartbeats 4000000 in
theorem walk (v0 : Value) (z0 : List Int) (v1 : Value) (z1 : List Int) (w : World) (h0 : IsB w v0 z0) (h1 : IsB w v1 z1) :
    Calls Try.prog 3 #[v0, v1] w fun e w' => e = .returned (.bool true) ∧ Below w.heap.size w w' := by
  obtain ⟨a, c, rfl⟩ := h0.slice
  obtain ⟨a1, c1, rfl⟩ := h1.slice
  have hb0 := h0.bound
  have hb1 := h1.bound
  by_cases hl : 20000 < z0.length
  · have hl' : (20000 : Int) < (z0.length : Int) := by omega
    clear h0 h1
    go_enter Try.func3, Try.ntmps3
    go_wp2_with (go_at_call 5; refine (awake_any _).mono ?_; rintro e w1 ⟨rfl, hb⟩)
    go_ret
    exact ⟨rfl, hb⟩
  have hl' : ¬ (20000 : Int) < (z0.length : Int) := by omega
  by_cases hm : 20000 < z1.length
  · have hm' : (20000 : Int) < (z1.length : Int) := by omega
    clear h0 h1
    go_enter Try.func3, Try.ntmps3
    go_wp2_with (go_at_call 5; refine (awake_any _).mono ?_; rintro e w1 ⟨rfl, hb⟩)
    go_ret
    exact ⟨rfl, hb⟩
  have hm' : ¬ (20000 : Int) < (z1.length : Int) := by omega
  obtain ⟨l, r, hR⟩ := reads_any z1.length z1 (Nat.le_refl _) h1.byt
  have hR1 : Reads (fr z0 ++ z1) (z0 :: l) r := by
    obtain ⟨q1, q2, q3⟩ := hR
    refine ⟨by rw [rows_cons, List.append_assoc, ← q1], fun p hp => ?_, q3⟩
    rcases List.mem_cons.1 hp with rfl | hp
    · omega
    · exact q2 p hp
  have hN := hid (next_fr (p := z0) (by omega) z1)
  have hfl : (fr z0).length ≤ 30000 := by rw [fr_len, vi_len (by omega)]; unfold wide; split <;> (try split) <;> omega
  have hrl : (rows l).length ≤ z1.length := by
    have := congrArg List.length hR.1
    simp at this; omega
  have hsum := hid (show (rows (z0 :: l)).length = (fr z0).length + (rows l).length by rw [rows_cons]; simp)
  replace hR := hid hR
  replace hR1 := hid hR1
  replace h0 := hid h0
  replace h1 := hid h1
  go_enter Try.func3, Try.ntmps3
  go_wp2_with fail
  refine (awake_any _).mono ?_
  rintro e w9 ⟨rfl, hb9⟩
  have h09 := hid (h0.out.below hb9)
  have h19 := hid (h1.out.below hb9)
  have B9 := hid hb9
  clear hb9 h0 h1
  go_wp2_with fail
  refine (encode_any _ _ _ h09.out (by omega)).mono ?_
  rintro e w1 ⟨b1, d1, rfl, o1, l1⟩
  obtain ⟨b2, d2, w2, hrun, o2, g2, _⟩ := app_run o1 (h19.out.below l1) (by omega) l1.size
  have l2 := l1.trans (app_low o1 l1.size g2)
  have h02 := hid (h09.out.below l2)
  have h12 := hid (h19.out.below l2)
  have B2 := hid (low' B9.out l2)
  have O2 := hid o2
  obtain ⟨L, hL⟩ : ∃ L, L = (fr z0).length := ⟨_, rfl⟩
  rw [← hL] at hrun O2 hN hsum hfl ⊢
  clear o1 l1 g2 l2 o2 h09 h19 B9 hL
  go_wp2_with (at_builtin; refine wpList_append_run _ rfl _ _ 22 rfl _ _ _ _ rfl rfl hrun ?_)
  refine (next_yes O2.out.isB hN.out).mono ?_
  rintro e w3 ⟨b3, d3, rfl, o3, l3⟩
  have h03 := hid (h02.out.below l3)
  have h13 := hid (h12.out.below l3)
  have O23 := hid (O2.out.below l3)
  have B3 := hid (low' B2.out l3)
  have O3 := hid o3
  clear l3 o3 h02 h12 O2 B2 hrun
  go_wp2_with fail
  refine (same_any _ _ _ _ _ h03.out O3.out.isB).mono ?_
  rintro e w4 ⟨rfl, n, rfl⟩
  have l4 : Below w3.heap.size w3 (w3.drewN n) := below_drewN (Below.refl _ _)
  have h14 := hid (h13.out.below l4)
  have O24 := hid (O23.out.below l4)
  have B4 := hid (low' B3.out l4)
  clear l4 h13 O23 B3 h03 O3
  go_wp2_with fail
  refine (whole_any _ _ _ O24.out.isB hR1.out).mono ?_
  rintro e w5 ⟨rfl, l5⟩
  have h15 := hid (h14.out.below l5)
  have B5 := hid (low' B4.out l5)
  clear l5 h14 O24 B4
  rw [hsum.out]
  go_wp2_with fail
  refine (whole_any _ _ _ h15.out hR.out).mono ?_
  rintro e w6 ⟨rfl, l6⟩
  have B6 := hid (low' B5.out l6)
  clear l6
  go_wp2
  go_ret
  exact ⟨rfl, B6.out⟩

theorem own : ownKnob Try.prog.godebug = none := by kernel_rfl
theorem laidOut : laidOutB Try.prog = true := by kernel_rfl

set_option maxRecDepth 100000 in
theorem lifted (os : Os) (started : os.Started) (H : Type) (enc : TypeId × Value → H) :
    ReturnsInHanded {} Try.checked os 3 .any (Rows.frameRestSpec.pre6 enc Try.prog Try.f3 Rows.frameRestRow.domain false) (Rows.frameRestSpec.post enc Try.prog Try.f3 false true false false) := by
  refine returnsInHanded_of_change (C := Try.checked) own started (by kernel_rfl) Try.func3
    (ChangeSpec.witness6 (enc := enc) (C := Try.checked) false ⟨#[], #[.slice none 0 0, .slice none 0 0], []⟩ 8 (by kernel_rfl) (by kernel_rfl) (by kernel_rfl) (by kernel_rfl)) ?_
  intro W base args ds gs before hval0 hW hcnd _
  have hval : ∀ (j : Nat) t v, Try.f3.params[j]? = some t → args[j]? = some v → Value.okWide Try.prog W .any base t v := hval0
  have hW' := hW
  obtain ⟨p, q, hA0, hV, rfl, hfz, hnd⟩ := hW
  have hA : DataW.TrodAll enc Try.prog W 0 (fun _ => true) true Try.f3.params.toList args.toList ds p := hA0
  rw [Try.params3] at hA hval
  obtain ⟨v0, vs0, d0, ds0, p0, q0, hargs, rfl, rfl, h0, r0⟩ := trodAll_cons hA
  obtain ⟨v1, vs1, d1, ds1, p1, q1, rfl, rfl, rfl, h1, r1⟩ := trodAll_cons r0
  obtain ⟨rfl, rfl, rfl⟩ := trodAll_nil r1
  obtain rfl : args = #[v0, v1] := by cases args; simp_all
  obtain ⟨rfl, rfl⟩ := trodVars_none hV
  have k0 := h0
  have lt0 : ∀ x ∈ p0, x.block < W.heap.size := by obtain ⟨m, hm⟩ := k0; exact DataW.trod_lt m _ _ _ hm
  obtain ⟨z0, w0⟩ := open_bytes Try.underlying22 Try.underlying5 (by kernel_rfl) (hval 0 22 v0 rfl rfl) h0
  have k1 := h1
  have lt1 : ∀ x ∈ p1, x.block < W.heap.size := by obtain ⟨m, hm⟩ := k1; exact DataW.trod_lt m _ _ _ hm
  obtain ⟨z1, w1⟩ := open_bytes Try.underlying22 Try.underlying5 (by kernel_rfl) (hval 1 22 v1 rfl rfl) h1
  clear hA0 hval0
  refine (walk v0 z0 v1 z1 W w0 w1).mono fun e W' ⟨he, bel⟩ => ?_
  subst he
  exact ⟨_, rfl, _, _, _, [], _, [], hW', trodAll_mk1 (shut_bool Try.underlying4 _), (trodAll_cons_mk (Below.trod laidOut (by kernel_rfl) (of_decide_eq_true (by kernel_rfl)) k0 bel lt0) (trodAll_cons_mk (Below.trod laidOut (by kernel_rfl) (of_decide_eq_true (by kernel_rfl)) k1 bel lt1) trodAll_mk0)), rfl, bel.frame _, fun h => by cases h⟩

theorem over : Rows.frameRestRow.holds Try.pinned (OpenSpec.ofChange Rows.frameRestSpec) :=
  OpenClaim.holds_of_wide 3 Try.f3 rfl rfl rfl rfl rfl rfl rfl ⟨rfl, rfl, rfl, rfl, rfl⟩ rfl rfl rfl rfl rfl (by kernel_rfl) Try.func3 (by kernel_rfl)
    (of_decide_eq_true (by kernel_rfl)) (by unfold Func.isWrapper; first | (rw [if_pos (by decide +kernel)]; kernel_rfl) | (rw [if_neg (by decide +kernel)]; exact ⟨rfl, rfl⟩))
    (fun os started H enc _ => lifted os started H enc)

theorem proved : Rows.FrameRestSaid := over
#print axioms proved

end Go.Proofs.Ytffopkpbekjanab.frameRest
