/- For any matchers and any two numbers the law MatchParts of the program returns true and leaves the matchers as they were: of matchers that may be any that stand together may be, and seven never may. No condition. -/
import Derived.Test.YthbdghbfhjimkabG8
import Derived.Test.YthbdghbfhjimkabA8
import Derived.Test.YthbdghbfhjimkabX1
namespace Go.Proofs.Ythbdghbfhjimkab.matchParts
open Go.ChangeShapes Go.WideShapes Go.ChangeAt Go.RowKit
set_option linter.unusedVariables false

theorem part_any {w : World} {a0 : Option Addr} {c0 : Nat} {l : List Mt} (h : IsMs w (.slice a0 l.length c0) l) {i k : Nat} (hik : i ≤ k) (hk : k ≤ l.length) :
    (c0 = i → IsMs w (.slice a0 (k - i) 0) ((l.drop i).take (k - i))) ∧ IsMs w (.slice (a0.map (fun x => x.add (i * 3))) (k - i) (c0 - i)) ((l.drop i).take (k - i)) := by
  obtain ⟨_, h2, h3⟩ := h.bound
  have hl : ((l.drop i).take (k - i)).length = k - i := by simp; omega
  constructor
  · intro e
    have h0 : k - i = 0 := by omega
    refine ⟨by rw [hl]; omega, h.2.1.part i _, a0, 0, by rw [hl], by omega, by omega, .inl ?_⟩
    exact List.eq_nil_of_length_eq_zero (by omega)
  · by_cases h0 : k - i = 0
    · refine ⟨by rw [hl]; omega, h.2.1.part i _, _, _, by rw [hl], by omega, by unfold maxLen; omega, .inl ?_⟩
      exact List.eq_nil_of_length_eq_zero (by omega)
    · obtain ⟨b, off, rfl, _⟩ := h.at (k := 0) (by omega)
      have := h.part i k hik hk (k - i) (c0 - i) rfl (by omega) (by unfold maxLen; omega)
      rw [Option.map_some, Addr.add_lit]
      exact this
theorem isLs_nil (w : World) : IsLs w (.slice none 0 0) [] := (ownL_nil 0 w).isL
set_option maxRecDepth 100000 in
set_option maxHeartbeats 1000000 in
theorem walk (v0 : Value) (l : List Mt) (f t : Int) (w : World) (h0 : IsMs w v0 l) (hf : (Lit.int .i64 f).wf = true) (ht : (Lit.int .i64 t).wf = true) :
    Calls Try.prog 4 #[v0, .int .i64 f, .int .i64 t] w fun e w' => e = .returned (.bool true) ∧ Below w.heap.size w w' := by
  obtain ⟨a0, c0, rfl⟩ := h0.slice
  obtain ⟨-, hb⟩ := h0.bound
  replace h0 := hid h0
  clear hf ht
  go_enter Try.func4, Try.ntmps4
  go_wp2_with fail
  refine (awake_any w).mono ?_
  rintro e w0 ⟨rfl, b0⟩
  have B0 := hid b0
  clear b0
  go_wp2_with fail
  refine (great_any _ _ l [] w0 (h0.out.below B0.out) (isLs_nil _)).mono ?_
  rintro e w1 ⟨r1, rfl, hfit, q1, rfl⟩
  have B1 := hid (below_drewN (n := q1) B0.out)
  generalize w0.drewN q1 = w1 at *
  clear B0
  cases r1 with
  | true =>
    clear hfit
    go_wp2
    go_ret
    exact ⟨rfl, B1.out⟩
  | false =>
    have hl100 := (hfit rfl).1
    clear hfit
    by_cases h1 : f < 0
    · have d1 : decide (f < 0) = true := by simpa using h1
      clear h1
      go_wp2
      go_ret
      exact ⟨rfl, B1.out⟩
    have d1 : decide (f < 0) = false := by simpa using h1
    by_cases h2 : t < f
    · have d2 : decide (t < f) = true := by simpa using h2
      clear h2 h1
      go_wp2
      go_ret
      exact ⟨rfl, B1.out⟩
    have d2 : decide (t < f) = false := by simpa using h2
    by_cases h3 : (l.length : Int) < t
    · have d3 : decide ((l.length : Int) < t) = true := by simpa using h3
      clear h2 h1 h3
      go_wp2
      go_ret
      exact ⟨rfl, B1.out⟩
    have d3 : decide ((l.length : Int) < t) = false := by simpa using h3
    obtain ⟨i, rfl⟩ : ∃ i : Nat, f = (i : Int) := ⟨f.toNat, by omega⟩
    obtain ⟨k, rfl⟩ : ∃ k : Nat, t = (k : Int) := ⟨t.toNat, by omega⟩
    have hik : (i : Int) ≤ (k : Int) := by omega
    have hkl : (k : Int) ≤ (l.length : Int) := by omega
    have hlc : (l.length : Int) ≤ (c0 : Int) := by omega
    have hkc : (k : Int) ≤ (c0 : Int) := by omega
    have hplen : ((l.drop i).take (k - i)).length ≤ 100 := by simp; omega
    have hmp := hid (fun (h : mayM l = true) => mayM_part h i (k - i))
    have h6len := hid (fun (h : mayM l = true) => mayM_len h)
    have hp := fun W (hB : Below w.heap.size w W) => part_any (h0.out.below hB) (i := i) (k := k) (by omega) (by omega)
    generalize (l.drop i).take (k - i) = P at *
    replace hp := hid hp
    by_cases h6 : 6 < l.length
    · have d6 : decide (6 < (l.length : Int)) = true := by simp; omega
      have d6' : decide (6 < l.length) = true := by simp; omega
      have hm : mayM l = false := by
        cases hm : mayM l
        · rfl
        · have := h6len.out hm
          omega
      go_wp2_with fail
      refine (mmay_any _ l w1 (h0.out.below B1.out)).mono ?_
      rintro e w2 ⟨rfl, b2⟩
      rw [hm]
      have B2 := hid (low' B1.out b2)
      clear b2 B1
      go_wp2_with fail
      · subst h
        refine (copyM_any _ P w2 ((hp.out _ B2.out).1 rfl) (by omega)).mono ?_
        rintro e w3 ⟨a3, c3, rfl, o3, b3⟩
        have B3 := hid (low' B2.out b3)
        go_wp2_with fail
        refine (mmay_any _ l w3 (h0.out.below B3.out)).mono ?_
        rintro e w4 ⟨rfl, b4⟩
        rw [hm]
        have B4 := hid (low' B3.out b4)
        go_wp2
        go_ret
        exact ⟨rfl, B4.out⟩
      · refine (copyM_any _ P w2 (hp.out _ B2.out).2 (by omega)).mono ?_
        rintro e w3 ⟨a3, c3, rfl, o3, b3⟩
        have B3 := hid (low' B2.out b3)
        go_wp2_with fail
        refine (mmay_any _ l w3 (h0.out.below B3.out)).mono ?_
        rintro e w4 ⟨rfl, b4⟩
        rw [hm]
        have B4 := hid (low' B3.out b4)
        go_wp2
        go_ret
        exact ⟨rfl, B4.out⟩
    · have d6 : decide (6 < (l.length : Int)) = false := by simp; omega
      have d6' : decide (6 < l.length) = false := by simp; omega
      have hp1 := hp.out _ B1.out
      clear hp
      go_wp2_with fail
      · subst h
        refine (copyM_any _ P w1 (hp1.1 rfl) (by omega)).mono ?_
        rintro e w3 ⟨a3, c3, rfl, o3, b3⟩
        have B3 := hid (low' B1.out b3)
        have o3' := hid o3
        go_wp2_with fail
        refine (mmay_any _ l w3 (h0.out.below B3.out)).mono ?_
        rintro e w4 ⟨rfl, b4⟩
        have B4 := hid (low' B3.out b4)
        have o4 := hid (o3'.out.below b4)
        cases hm : mayM l
        · go_wp2
          go_ret
          exact ⟨rfl, B4.out⟩
        · have hmP := hmp.out hm
          go_wp2_with fail
          refine (mmay_any _ P w4 o4.out.isM).mono ?_
          rintro e w5 ⟨rfl, b5⟩
          rw [hmP]
          have B5 := hid (low' B4.out b5)
          go_wp2
          go_ret
          exact ⟨rfl, B5.out⟩
      · refine (copyM_any _ P w1 hp1.2 (by omega)).mono ?_
        rintro e w3 ⟨a3, c3, rfl, o3, b3⟩
        have B3 := hid (low' B1.out b3)
        have o3' := hid o3
        go_wp2_with fail
        refine (mmay_any _ l w3 (h0.out.below B3.out)).mono ?_
        rintro e w4 ⟨rfl, b4⟩
        have B4 := hid (low' B3.out b4)
        have o4 := hid (o3'.out.below b4)
        cases hm : mayM l
        · go_wp2
          go_ret
          exact ⟨rfl, B4.out⟩
        · have hmP := hmp.out hm
          go_wp2_with fail
          refine (mmay_any _ P w4 o4.out.isM).mono ?_
          rintro e w5 ⟨rfl, b5⟩
          rw [hmP]
          have B5 := hid (low' B4.out b5)
          go_wp2
          go_ret
          exact ⟨rfl, B5.out⟩

theorem own : ownKnob Try.prog.godebug = none := by kernel_rfl
theorem laidOut : laidOutB Try.prog = true := by kernel_rfl

set_option maxRecDepth 100000 in
theorem lifted (os : Os) (started : os.Started) (H : Type) (enc : TypeId × Value → H) :
    ReturnsInHanded {} Try.checked os 4 .any (Rows.matchPartsSpec.pre6 enc Try.prog Try.f4 Rows.matchPartsRow.domain false) (Rows.matchPartsSpec.post enc Try.prog Try.f4 false true false false) := by
  refine returnsInHanded_of_change (C := Try.checked) own started (by kernel_rfl) Try.func4
    (ChangeSpec.witness6 (enc := enc) (C := Try.checked) false ⟨#[], #[.slice none 0 0, .int .i64 0, .int .i64 0], []⟩ 8 (by kernel_rfl) (by kernel_rfl) (by kernel_rfl) (by kernel_rfl)) ?_
  intro W base args ds gs before hval0 hW hcnd _
  have hval : ∀ (j : Nat) t v, Try.f4.params[j]? = some t → args[j]? = some v → Value.okWide Try.prog W .any base t v := hval0
  have hW' := hW
  obtain ⟨p, q, hA0, hV, rfl, hfz, hnd⟩ := hW
  have hA : DataW.TrodAll enc Try.prog W 0 (fun _ => true) true Try.f4.params.toList args.toList ds p := hA0
  rw [Try.params4] at hA hval
  obtain ⟨v0, vs0, d0, ds0, p0, q0, hargs, rfl, rfl, h0, r0⟩ := trodAll_cons hA
  obtain ⟨v1, vs1, d1, ds1, p1, q1, rfl, rfl, rfl, h1, r1⟩ := trodAll_cons r0
  obtain ⟨v2, vs2, d2, ds2, p2, q2, rfl, rfl, rfl, h2, r2⟩ := trodAll_cons r1
  obtain ⟨rfl, rfl, rfl⟩ := trodAll_nil r2
  obtain rfl : args = #[v0, v1, v2] := by cases args; simp_all
  obtain ⟨rfl, rfl⟩ := trodVars_none hV
  have k0 := h0
  have lt0 : ∀ x ∈ p0, x.block < W.heap.size := by obtain ⟨m, hm⟩ := k0; exact DataW.trod_lt m _ _ _ hm
  obtain ⟨l0, w0⟩ := open_mats (hval 0 25 v0 rfl rfl) h0
  obtain ⟨a1, rfl, rfl, rfl, w1⟩ := open_int Try.underlying3 (hval 1 3 v1 rfl rfl) h1
  obtain ⟨a2, rfl, rfl, rfl, w2⟩ := open_int Try.underlying3 (hval 2 3 v2 rfl rfl) h2
  clear hA0 hval0
  refine (walk v0 l0 a1 a2 W w0 w1 w2).mono fun e W' ⟨he, bel⟩ => ?_
  subst he
  exact ⟨_, rfl, _, _, _, [], _, [], hW', trodAll_mk1 (shut_bool Try.underlying4 _), (trodAll_cons_mk (Below.trod laidOut (by kernel_rfl) (of_decide_eq_true (by kernel_rfl)) k0 bel lt0) (trodAll_cons_mk (shut_int Try.underlying3 w1) (trodAll_cons_mk (shut_int Try.underlying3 w2) trodAll_mk0))), rfl, bel.frame _, fun h => by cases h⟩

theorem over : Rows.matchPartsRow.holds Try.pinned (OpenSpec.ofChange Rows.matchPartsSpec) :=
  OpenClaim.holds_of_wide 4 Try.f4 rfl rfl rfl rfl rfl rfl rfl ⟨rfl, rfl, rfl, rfl, rfl⟩ rfl rfl rfl rfl rfl (by kernel_rfl) Try.func4 (by kernel_rfl)
    (of_decide_eq_true (by kernel_rfl)) (by unfold Func.isWrapper; first | (rw [if_pos (by decide +kernel)]; kernel_rfl) | (rw [if_neg (by decide +kernel)]; exact ⟨rfl, rfl⟩))
    (fun os started H enc _ => lifted os started H enc)

theorem proved : Rows.MatchPartsSaid := over
#print axioms proved

end Go.Proofs.Ythbdghbfhjimkab.matchParts
