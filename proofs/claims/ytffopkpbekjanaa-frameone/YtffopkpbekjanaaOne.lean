/- For any slice of bytes the law FrameOne of the program returns true and leaves the bytes as they were: what is read is framed as just the bytes that were read. No condition. -/
import Derived.Test.YtffopkpbekjanaaAwake
import Derived.Test.YtffopkpbekjanaaOpen
import Derived.Test.YtffopkpbekjanaaWh
namespace Go.Proofs.Ytffopkpbekjanaa.frameOne
open Go.ChangeShapes Go.WideShapes Go.ChangeAt Go.RowKit
set_option linter.unusedVariables false

theorem below_drewN {w w' : World} {B n : Nat} (h : Below B w w') : Below B w (w'.drewN n) := h.trans ⟨rfl, rfl, rfl, Nat.le_refl _, fun _ _ => rfl⟩
set_option maxHeartbeats 4000000 in
theorem walk (v0 : Value) (z0 : List Int) (w : World) (h0 : IsB w v0 z0) :
    Calls Try.prog 7 #[v0] w fun e w' => e = .returned (.bool true) ∧ Below w.heap.size w w' := by
  obtain ⟨a, c, rfl⟩ := h0.slice
  have hb0 := h0.bound
  by_cases hl : 20000 < z0.length
  · have hl' : (20000 : Int) < (z0.length : Int) := by omega
    clear h0
    go_enter Try.func7, Try.ntmps7
    go_wp2_with (go_at_call 18; refine (awake_any _).mono ?_; rintro e w1 ⟨rfl, hb⟩)
    go_ret
    exact ⟨rfl, hb⟩
  have hl' : ¬ (20000 : Int) < (z0.length : Int) := by omega
  have hbyt := hid h0.byt
  obtain ⟨l, r, hR⟩ := reads_any z0.length z0 (Nat.le_refl _) h0.byt
  replace hR := hid hR
  replace h0 := hid h0
  go_enter Try.func7, Try.ntmps7
  go_wp2_with fail
  refine (awake_any _).mono ?_
  rintro e w9 ⟨rfl, hb9⟩
  have h9 := hid (h0.out.below hb9)
  have B9 := hid hb9
  clear hb9
  go_wp2_with fail
  cases hn : nextP z0 with
  | none =>
    obtain ⟨rfl, rfl⟩ := reads_one l [] z0 r z0 hR.out ⟨rfl, by simp, hn⟩
    refine (next_no h9.out hn).mono ?_
    rintro e w1 ⟨rfl, l1⟩
    have h1 := hid (h9.out.below l1)
    have B1 := hid (low' B9.out l1)
    clear l1 hn
    go_wp2_with fail
    refine (whole_any _ _ _ h1.out hR.out).mono ?_
    rintro e w2 ⟨rfl, l2⟩
    have B2 := hid (low' B1.out l2)
    clear l2
    rw [rows_nil]
    go_wp2
    go_ret
    exact ⟨rfl, B2.out⟩
  | some y =>
    obtain ⟨p, u⟩ := y
    obtain ⟨hp, hu, hz⟩ := next_some h0.out.byt hn
    obtain ⟨hul, _, hu5⟩ := next_le h0.out.byt hn
    have hge : u ≤ (rows l).length := by
      obtain ⟨q1, q2, q3⟩ := hR.out
      cases l with
      | nil => rw [q1, rows_nil, List.nil_append, q3] at hn; cases hn
      | cons x l =>
        have := next_fr (q2 x (by simp)) (rows l ++ r)
        rw [← List.append_assoc, ← rows_cons, ← q1, hn] at this
        cases this
        rw [rows_cons]; simp
    have hte : fr p = z0.take u := by
      conv => rhs; rw [hz]
      rw [List.take_left' hu.symm]
    have hlu : (z0.take u).length = u := by simp; omega
    have hge' : (u : Int) ≤ ((rows l).length : Int) := by omega
    have hul' : (u : Int) ≤ (z0.length : Int) := by omega
    have hzl : (rows l).length ≤ z0.length := by
      have := congrArg List.length hR.out.1
      simp at this; omega
    refine (next_yes h9.out hn).mono ?_
    rintro e w1 ⟨a1, c1, rfl, o1, l1⟩
    have h1 := hid (h9.out.below l1)
    have B1 := hid (low' B9.out l1)
    have O1 := hid o1
    have HTE := hid hte
    have HLU := hid hlu
    clear l1 o1 hn hz hu hge hte hlu
    go_wp2_with fail
    refine (encode_any _ _ _ O1.out.isB hp).mono ?_
    rintro e w2 ⟨a2, c2, rfl, o2, l2⟩
    rw [HTE.out] at o2
    rw [HTE.out, HLU.out]
    rw [HLU.out] at o2
    have h2 := hid (h1.out.below l2)
    have B2 := hid (low' B1.out l2)
    have O2 := hid o2
    obtain ⟨b, off, rfl, _⟩ := (h2.out.at).2.2.2 (by omega)
    have hP := hid (h2.out.part 0 u (by omega) (by omega) u c (by omega) (by omega) (by unfold maxLen; omega))
    rw [Nat.add_zero, List.drop_zero] at hP
    clear l2 o2 h1 B1 O1
    go_wp2_with fail
    refine (same_any _ _ _ _ _ O2.out.isB hP.out).mono ?_
    rintro e w3 ⟨rfl, n, rfl⟩
    have l3 : Below w2.heap.size w2 (w2.drewN n) := below_drewN (Below.refl _ _)
    have h3 := hid (h2.out.below l3)
    have B3 := hid (low' B2.out l3)
    clear l3 h2 B2 O2 hP
    go_wp2_with fail
    refine (whole_any _ _ _ h3.out hR.out).mono ?_
    rintro e w4 ⟨rfl, l4⟩
    have B4 := hid (low' B3.out l4)
    clear l4
    go_wp2
    go_ret
    exact ⟨rfl, B4.out⟩

theorem own : ownKnob Try.prog.godebug = none := by kernel_rfl
theorem laidOut : laidOutB Try.prog = true := by kernel_rfl

set_option maxRecDepth 100000 in
theorem lifted (os : Os) (started : os.Started) (H : Type) (enc : TypeId × Value → H) :
    ReturnsInHanded {} Try.checked os 7 .any (Rows.frameOneSpec.pre6 enc Try.prog Try.f7 Rows.frameOneRow.domain false) (Rows.frameOneSpec.post enc Try.prog Try.f7 false true false false) := by
  refine returnsInHanded_of_change (C := Try.checked) own started (by kernel_rfl) Try.func7
    (ChangeSpec.witness6 (enc := enc) (C := Try.checked) false ⟨#[], #[.slice none 0 0], []⟩ 8 (by kernel_rfl) (by kernel_rfl) (by kernel_rfl) (by kernel_rfl)) ?_
  intro W base args ds gs before hval0 hW hcnd _
  have hval : ∀ (j : Nat) t v, Try.f7.params[j]? = some t → args[j]? = some v → Value.okWide Try.prog W .any base t v := hval0
  have hW' := hW
  obtain ⟨p, q, hA0, hV, rfl, hfz, hnd⟩ := hW
  have hA : DataW.TrodAll enc Try.prog W 0 (fun _ => true) true Try.f7.params.toList args.toList ds p := hA0
  rw [Try.params7] at hA hval
  obtain ⟨v0, vs0, d0, ds0, p0, q0, hargs, rfl, rfl, h0, r0⟩ := trodAll_cons hA
  obtain ⟨rfl, rfl, rfl⟩ := trodAll_nil r0
  obtain rfl : args = #[v0] := by cases args; simp_all
  obtain ⟨rfl, rfl⟩ := trodVars_none hV
  have k0 := h0
  have lt0 : ∀ x ∈ p0, x.block < W.heap.size := by obtain ⟨m, hm⟩ := k0; exact DataW.trod_lt m _ _ _ hm
  obtain ⟨z0, w0⟩ := open_bytes Try.underlying22 Try.underlying5 (by kernel_rfl) (hval 0 22 v0 rfl rfl) h0
  clear hA0 hval0
  refine (walk v0 z0 W w0).mono fun e W' ⟨he, bel⟩ => ?_
  subst he
  exact ⟨_, rfl, _, _, _, [], _, [], hW', trodAll_mk1 (shut_bool Try.underlying4 _), (trodAll_cons_mk (Below.trod laidOut (by kernel_rfl) (of_decide_eq_true (by kernel_rfl)) k0 bel lt0) trodAll_mk0), rfl, bel.frame _, fun h => by cases h⟩

theorem over : Rows.frameOneRow.holds Try.pinned (OpenSpec.ofChange Rows.frameOneSpec) :=
  OpenClaim.holds_of_wide 7 Try.f7 rfl rfl rfl rfl rfl rfl rfl ⟨rfl, rfl, rfl, rfl, rfl⟩ rfl rfl rfl rfl rfl (by kernel_rfl) Try.func7 (by kernel_rfl)
    (of_decide_eq_true (by kernel_rfl)) (by unfold Func.isWrapper; first | (rw [if_pos (by decide +kernel)]; kernel_rfl) | (rw [if_neg (by decide +kernel)]; exact ⟨rfl, rfl⟩))
    (fun os started H enc _ => lifted os started H enc)

theorem proved : Rows.FrameOneSaid := over
#print axioms proved

end Go.Proofs.Ytffopkpbekjanaa.frameOne
