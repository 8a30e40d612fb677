/- For any slice of bytes and any number the law FrameEncodes of the program returns true and leaves the bytes as they were: a record, with so many noughts behind it, is framed as the chapter says, or refused. No condition. -/
import Derived.Test.YtffopkpbekjanaaRef1
import Derived.Test.YtffopkpbekjanaaOpen
namespace Go.Proofs.Ytffopkpbekjanaa.frameEncodes
open Go.ChangeShapes Go.WideShapes Go.ChangeAt Go.RowKit
set_option linter.unusedVariables false

theorem below_drewN {w w' : World} {B n : Nat} (h : Below B w w') : Below B w (w'.drewN n) := h.trans ⟨rfl, rfl, rfl, Nat.le_refl _, fun _ _ => rfl⟩
set_option maxHeartbeats 4000000 in
theorem walk (v0 : Value) (z0 : List Int) (a1 : Int) (w : World) (h0 : IsB w v0 z0) (h1 : (Lit.int .i64 a1).wf = true) :
    Calls Try.prog 3 #[v0, .int .i64 a1] w fun e w' => e = .returned (.bool true) ∧ Below w.heap.size w w' := by
  obtain ⟨a, c, rfl⟩ := h0.slice
  have hb0 := h0.bound
  simp [Lit.wf, IntKind.min, IntKind.max, IntKind.bits, IntKind.signed] at h1
  by_cases hl : 30000 < z0.length
  · have hl' : (30000 : Int) < (z0.length : Int) := by omega
    clear h0
    go_enter Try.func3, Try.ntmps3
    go_wp2
    go_ret
    exact ⟨rfl, Below.refl _ _⟩
  have hl' : ¬ (30000 : Int) < (z0.length : Int) := by omega
  by_cases hn : a1 < 0
  · clear h0
    go_enter Try.func3, Try.ntmps3
    go_wp2
    go_ret
    exact ⟨rfl, Below.refl _ _⟩
  by_cases hm : 70000 < a1
  · clear h0
    go_enter Try.func3, Try.ntmps3
    go_wp2
    go_ret
    exact ⟨rfl, Below.refl _ _⟩
  obtain ⟨k, rfl⟩ : ∃ k : Nat, a1 = (k : Int) := ⟨a1.toNat, by omega⟩
  replace h0 := hid h0
  go_enter Try.func3, Try.ntmps3
  go_wp2_with fail
  refine (copy_any _ _ _ h0.out (by omega)).mono ?_
  rintro e w1 ⟨b1, c1, rfl, o1, l1⟩
  obtain ⟨b2, c2, w2, hrun, o2, g2⟩ := zeros_run o1 k (by omega) l1.size
  have l2 := hid (l1.trans (app_low o1 l1.size g2))
  obtain ⟨al, hal⟩ : ∃ al, al = z0 ++ List.replicate k 0 := ⟨_, rfl⟩
  have hlen : z0.length + k = al.length := by rw [hal]; simp
  rw [← hal] at o2
  rw [hlen] at hrun o2
  have hll : al.length ≤ 100000 := by omega
  replace o2 := hid o2
  clear o1 l1 g2 hal
  go_wp2_with (at_builtin; refine Lib.wpList_append_run _ rfl _ _ _ _ rfl _ _ rfl rfl _ _ (hrun _) ?_)
  refine (copy_any _ _ _ o2.out.isB (by omega)).mono ?_
  rintro e w3 ⟨b3, c3, rfl, o3, l3⟩
  have o23 := hid (o2.out.below l3)
  have l23 := hid (low' l2.out l3)
  replace o3 := hid o3
  clear l3 o2 l2 hrun
  by_cases hlong : 65536 < al.length
  · have hlong' : (65536 : Int) < (al.length : Int) := by omega
    go_wp2_with fail
    refine (encode_long _ _ _ o3.out.isB hlong).mono ?_
    rintro e w4 ⟨rfl, rfl⟩
    go_wp2_with fail
    refine (same_any _ _ _ _ _ o3.out.isB o23.out.isB).mono ?_
    rintro e w5 ⟨rfl, n, rfl⟩
    go_wp2
    go_ret
    exact ⟨rfl, below_drewN l23.out⟩
  · have hlong' : ¬ (65536 : Int) < (al.length : Int) := by omega
    go_wp2_with fail
    refine (encode_any _ _ _ o3.out.isB (by omega)).mono ?_
    rintro e w4 ⟨b4, c4, rfl, o4, l4⟩
    have o34 := hid (o3.out.below l4)
    have o24 := hid (o23.out.below l4)
    have l24 := hid (low' l23.out l4)
    replace o4 := hid o4
    clear l4 o3 o23 l23
    go_wp2_with fail
    refine (same_any _ _ _ _ _ o34.out.isB o24.out.isB).mono ?_
    rintro e w5 ⟨rfl, n, rfl⟩
    have l5 : Below w4.heap.size w4 (w4.drewN n) := below_drewN (Below.refl _ _)
    have o45 := hid (o4.out.below l5)
    have o25 := hid (o24.out.below l5)
    have l25 := hid (low' l24.out l5)
    clear l5 o4 o24 l24 o34
    go_wp2_with fail
    refine (rframe _ _ _ o25.out.isB (by omega)).mono ?_
    rintro e w6 ⟨b6, c6, rfl, o6, l6⟩
    have o46 := hid (o45.out.below l6)
    have l26 := hid (low' l25.out l6)
    replace o6 := hid o6
    clear l6 o45 l25
    go_wp2_with fail
    refine (same_any _ _ _ _ _ o46.out.isB o6.out.isB).mono ?_
    rintro e w7 ⟨rfl, n7, rfl⟩
    go_wp2
    go_ret
    exact ⟨rfl, below_drewN l26.out⟩

theorem own : ownKnob Try.prog.godebug = none := by kernel_rfl
theorem laidOut : laidOutB Try.prog = true := by kernel_rfl

set_option maxRecDepth 100000 in
theorem lifted (os : Os) (started : os.Started) (H : Type) (enc : TypeId × Value → H) :
    ReturnsInHanded {} Try.checked os 3 .any (Rows.frameEncodesSpec.pre6 enc Try.prog Try.f3 Rows.frameEncodesRow.domain false) (Rows.frameEncodesSpec.post enc Try.prog Try.f3 false true false false) := by
  refine returnsInHanded_of_change (C := Try.checked) own started (by kernel_rfl) Try.func3
    (ChangeSpec.witness6 (enc := enc) (C := Try.checked) false ⟨#[], #[.slice none 0 0, .int .i64 0], []⟩ 8 (by kernel_rfl) (by kernel_rfl) (by kernel_rfl) (by kernel_rfl)) ?_
  intro W base args ds gs before hval0 hW hcnd _
  have hval : ∀ (j : Nat) t v, Try.f3.params[j]? = some t → args[j]? = some v → Value.okWide Try.prog W .any base t v := hval0
  have hW' := hW
  obtain ⟨p, q, hA0, hV, rfl, hfz, hnd⟩ := hW
  have hA : DataW.TrodAll enc Try.prog W 0 (fun _ => true) true Try.f3.params.toList args.toList ds p := hA0
  rw [Try.params3] at hA hval
  obtain ⟨v0, vs0, d0, ds0, p0, q0, hargs, rfl, rfl, h0, r0⟩ := trodAll_cons hA
  obtain ⟨v1, vs1, d1, ds1, p1, q1, rfl, rfl, rfl, h1, r1⟩ := trodAll_cons r0
  obtain ⟨rfl, rfl, rfl⟩ := trodAll_nil r1
  obtain rfl : args = #[v0, v1] := by cases args; simp_all
  obtain ⟨rfl, rfl⟩ := trodVars_none hV
  have k0 := h0
  have lt0 : ∀ x ∈ p0, x.block < W.heap.size := by obtain ⟨m, hm⟩ := k0; exact DataW.trod_lt m _ _ _ hm
  obtain ⟨z0, w0⟩ := open_bytes Try.underlying22 Try.underlying5 (by kernel_rfl) (hval 0 22 v0 rfl rfl) h0
  obtain ⟨a1, rfl, rfl, rfl, w1⟩ := open_int Try.underlying3 (hval 1 3 v1 rfl rfl) h1
  clear hA0 hval0
  refine (walk v0 z0 a1 W w0 w1).mono fun e W' ⟨he, bel⟩ => ?_
  subst he
  exact ⟨_, rfl, _, _, _, [], _, [], hW', trodAll_mk1 (shut_bool Try.underlying4 _), (trodAll_cons_mk (Below.trod laidOut (by kernel_rfl) (of_decide_eq_true (by kernel_rfl)) k0 bel lt0) (trodAll_cons_mk (shut_int Try.underlying3 w1) trodAll_mk0)), rfl, bel.frame _, fun h => by cases h⟩

theorem over : Rows.frameEncodesRow.holds Try.pinned (OpenSpec.ofChange Rows.frameEncodesSpec) :=
  OpenClaim.holds_of_wide 3 Try.f3 rfl rfl rfl rfl rfl rfl rfl ⟨rfl, rfl, rfl, rfl, rfl⟩ rfl rfl rfl rfl rfl (by kernel_rfl) Try.func3 (by kernel_rfl)
    (of_decide_eq_true (by kernel_rfl)) (by unfold Func.isWrapper; first | (rw [if_pos (by decide +kernel)]; kernel_rfl) | (rw [if_neg (by decide +kernel)]; exact ⟨rfl, rfl⟩))
    (fun os started H enc _ => lifted os started H enc)

theorem proved : Rows.FrameEncodesSaid := over
#print axioms proved

end Go.Proofs.Ytffopkpbekjanaa.frameEncodes
