/- For any labels and any two numbers the law LabelsParts of the program returns true and leaves the labels as they were: of labels that may be any that stand together may be. No condition. -/
import Derived.Test.YthcbekccnmdgaabG
import Derived.Test.YthcbekccnmdgaabAw
namespace Go.Proofs.Ythcbekccnmdgaab.labelsParts
open Go.ChangeShapes Go.WideShapes Go.ChangeAt Go.RowKit
set_option linter.unusedVariables false

theorem part_any {w : World} {a0 : Option Addr} {c0 : Nat} {l : List Lb} (h : IsLs w (.slice a0 l.length c0) l) {i k : Nat} (hik : i ≤ k) (hk : k ≤ l.length) :
    (c0 = i → IsLs w (.slice a0 (k - i) 0) ((l.drop i).take (k - i))) ∧ IsLs w (.slice (a0.map (fun x => x.add (i * 2))) (k - i) (c0 - i)) ((l.drop i).take (k - i)) := by
  obtain ⟨_, h2, h3⟩ := h.bound
  have hl : ((l.drop i).take (k - i)).length = k - i := by simp; omega
  constructor
  · intro e
    have h0 : k - i = 0 := by omega
    refine ⟨by rw [hl]; omega, h.2.1.part i _, a0, 0, by rw [hl], by omega, by omega, .inl ?_⟩
    exact List.eq_nil_of_length_eq_zero (by omega)
  · by_cases h0 : k - i = 0
    · refine ⟨by rw [hl]; omega, h.2.1.part i _, _, _, by rw [hl], by omega, by unfold maxLen; omega, .inl ?_⟩
      exact List.eq_nil_of_length_eq_zero (by omega)
    · obtain ⟨b, off, rfl, _⟩ := h.at (k := 0) (by omega)
      have := h.part i k hik hk (k - i) (c0 - i) rfl (by omega) (by unfold maxLen; omega)
      rw [Option.map_some, Addr.add_lit]
      exact this
set_option maxHeartbeats 4000000 in
theorem walk (v0 : Value) (l : List Lb) (f t : Int) (w : World) (h0 : IsLs w v0 l) (hf : (Lit.int .i64 f).wf = true) (ht : (Lit.int .i64 t).wf = true) :
    Calls Try.prog 5 #[v0, .int .i64 f, .int .i64 t] w fun e w' => e = .returned (.bool true) ∧ Below w.heap.size w w' := by
  obtain ⟨a0, c0, rfl⟩ := h0.slice
  have hb := h0.bound
  replace h0 := hid h0
  clear hf ht
  go_enter Try.func5, Try.ntmps5
  go_wp2_with fail
  refine (awake_any w).mono ?_
  rintro e w0 ⟨rfl, b0⟩
  have B0 := hid b0
  clear b0
  go_wp2_with fail
  refine (great_any _ l w0 (h0.out.below B0.out)).mono ?_
  rintro e w1 ⟨r1, rfl, hfit, q1, rfl⟩
  have B1 := hid (below_drewN (n := q1) B0.out)
  generalize w0.drewN q1 = w1 at *
  clear B0
  cases r1 with
  | true =>
    clear hfit
    go_wp2
    go_ret
    exact ⟨rfl, B1.out⟩
  | false =>
    clear hfit
    go_wp2_with fail
    refine (may_any _ l w1 (h0.out.below B1.out)).mono ?_
    rintro e w2 ⟨rfl, b2⟩
    have B2 := hid (low' B1.out b2)
    clear b2 B1
    cases hm : mayL l with
    | false =>
      clear hm
      go_wp2
      go_ret
      exact ⟨rfl, B2.out⟩
    | true =>
      replace hm := hid hm
      by_cases h1 : f < 0
      · have d1 : decide (f < 0) = true := by simpa using h1
        clear h1
        go_wp2
        go_ret
        exact ⟨rfl, B2.out⟩
      have d1 : decide (f < 0) = false := by simpa using h1
      by_cases h2 : t < f
      · have d2 : decide (t < f) = true := by simpa using h2
        clear h2 h1
        go_wp2
        go_ret
        exact ⟨rfl, B2.out⟩
      have d2 : decide (t < f) = false := by simpa using h2
      by_cases h3 : (l.length : Int) < t
      · have d3 : decide ((l.length : Int) < t) = true := by simpa using h3
        clear h2 h1 h3
        go_wp2
        go_ret
        exact ⟨rfl, B2.out⟩
      have d3 : decide ((l.length : Int) < t) = false := by simpa using h3
      have hmn := hid (fun (x : Lb) (hx : x ∈ l) => mayL_mem hm.out hx)
      have hmid := hid (fun (k : Nat) (x : Lb) (hx : l[k]? = some x) => h0.out.mid hx)
      go_wp2
      go_loop [7] (fun iv => ∃ j : Nat, j ≤ l.length ∧ iv = .int .i64 (j : Int)) (fun iv => l.length - (intOf iv).toNat)
      case atStart => exact ⟨0, by omega, rfl⟩
      case round =>
        obtain ⟨j, hj, rfl⟩ := hrel
        by_cases hlt : j < l.length
        · have hlt' : (j : Int) < (l.length : Int) := by omega
          obtain ⟨b, off, rfl, hc⟩ := h0.out.at hlt
          obtain ⟨⟨xn, xv⟩, hx⟩ : ∃ x, l[j]? = some x := ⟨_, List.getElem?_eq_getElem hlt⟩
          obtain ⟨c0', c1'⟩ := hc j _ hx
          obtain ⟨e1, e2⟩ := hmn.out _ (List.mem_of_getElem? hx)
          obtain ⟨m0, m1⟩ := hmid.out j _ hx
          simp only at c0' c1' e1 e2 m0 m1
          have d0 : w2.cell? ⟨b, off + j * 2, none⟩ = some (.string ⟨xn.toArray⟩) := (B2.out.cell (p := ⟨b, off + j * 2, none⟩) (World.block_lt_of_cell? w _ c0')).trans c0'
          have d1 : w2.cell? ⟨b, off + j * 2 + 1, none⟩ = some (.string ⟨xv.toArray⟩) := (B2.out.cell (p := ⟨b, off + j * 2 + 1, none⟩) (World.block_lt_of_cell? w _ c1')).trans c1'
          have hn := hid (fun w => mayName_any xn w m0)
          have hv := hid (fun w => mayValue_any xv w m1)
          rw [e1] at hn
          rw [e2] at hv
          unfold str at hn hv
          clear c0' c1' hc hx e1 e2
          go_wp2_with (first | (go_at_call 7; refine (hn.out _).mono ?_; rintro e w' ⟨rfl, hw'⟩; have hw2 := hw'.symm; subst hw2) | (go_at_call 10; refine (hv.out _).mono ?_; rintro e w' ⟨rfl, hw'⟩; have hw2 := hw'.symm; subst hw2))
          all_goals exact ⟨⟨j + 1, by omega, by go_num⟩, by simp [intOf]; omega⟩
        · have hlt' : ¬ (j : Int) < (l.length : Int) := by omega
          obtain rfl : j = l.length := by omega
          obtain ⟨i, rfl⟩ : ∃ i : Nat, f = (i : Int) := ⟨f.toNat, by omega⟩
          obtain ⟨k, rfl⟩ : ∃ k : Nat, t = (k : Int) := ⟨t.toNat, by omega⟩
          have hik : (i : Int) ≤ (k : Int) := by omega
          have hkl : (k : Int) ≤ (l.length : Int) := by omega
          have hlc : (l.length : Int) ≤ (c0 : Int) := by omega
          have h4 := mayL_len hm.out
          have h4' : decide ((l.length : Int) ≤ 4) = true := by simp; omega
          have hkc : (k : Int) ≤ (c0 : Int) := by omega
          have hp := hid (part_any (h0.out.below B2.out) (i := i) (k := k) (by omega) (by omega))
          have hmp := hid (mayL_part hm.out i (k - i))
          go_wp2_with fail
          · refine (may_any _ _ w2 (hp.out.1 (by omega))).mono ?_
            rintro e w3 ⟨rfl, b3⟩
            rw [hmp.out]
            have B3 := hid (low' B2.out b3)
            go_wp2
            go_ret
            exact ⟨rfl, B3.out⟩
          · refine (may_any _ _ w2 hp.out.2).mono ?_
            rintro e w3 ⟨rfl, b3⟩
            rw [hmp.out]
            have B3 := hid (low' B2.out b3)
            go_wp2
            go_ret
            exact ⟨rfl, B3.out⟩

theorem own : ownKnob Try.prog.godebug = none := by kernel_rfl
theorem laidOut : laidOutB Try.prog = true := by kernel_rfl

set_option maxRecDepth 100000 in
theorem lifted (os : Os) (started : os.Started) (H : Type) (enc : TypeId × Value → H) :
    ReturnsInHanded {} Try.checked os 5 .any (Rows.labelsPartsSpec.pre6 enc Try.prog Try.f5 Rows.labelsPartsRow.domain false) (Rows.labelsPartsSpec.post enc Try.prog Try.f5 false true false false) := by
  refine returnsInHanded_of_change (C := Try.checked) own started (by kernel_rfl) Try.func5
    (ChangeSpec.witness6 (enc := enc) (C := Try.checked) false ⟨#[], #[.slice none 0 0, .int .i64 0, .int .i64 0], []⟩ 8 (by kernel_rfl) (by kernel_rfl) (by kernel_rfl) (by kernel_rfl)) ?_
  intro W base args ds gs before hval0 hW hcnd _
  have hval : ∀ (j : Nat) t v, Try.f5.params[j]? = some t → args[j]? = some v → Value.okWide Try.prog W .any base t v := hval0
  have hW' := hW
  obtain ⟨p, q, hA0, hV, rfl, hfz, hnd⟩ := hW
  have hA : DataW.TrodAll enc Try.prog W 0 (fun _ => true) true Try.f5.params.toList args.toList ds p := hA0
  rw [Try.params5] at hA hval
  obtain ⟨v0, vs0, d0, ds0, p0, q0, hargs, rfl, rfl, h0, r0⟩ := trodAll_cons hA
  obtain ⟨v1, vs1, d1, ds1, p1, q1, rfl, rfl, rfl, h1, r1⟩ := trodAll_cons r0
  obtain ⟨v2, vs2, d2, ds2, p2, q2, rfl, rfl, rfl, h2, r2⟩ := trodAll_cons r1
  obtain ⟨rfl, rfl, rfl⟩ := trodAll_nil r2
  obtain rfl : args = #[v0, v1, v2] := by cases args; simp_all
  obtain ⟨rfl, rfl⟩ := trodVars_none hV
  have k0 := h0
  have lt0 : ∀ x ∈ p0, x.block < W.heap.size := by obtain ⟨m, hm⟩ := k0; exact DataW.trod_lt m _ _ _ hm
  obtain ⟨l0, w0⟩ := open_labs (hval 0 24 v0 rfl rfl) h0
  obtain ⟨a1, rfl, rfl, rfl, w1⟩ := open_int Try.underlying3 (hval 1 3 v1 rfl rfl) h1
  obtain ⟨a2, rfl, rfl, rfl, w2⟩ := open_int Try.underlying3 (hval 2 3 v2 rfl rfl) h2
  clear hA0 hval0
  refine (walk v0 l0 a1 a2 W w0 w1 w2).mono fun e W' ⟨he, bel⟩ => ?_
  subst he
  exact ⟨_, rfl, _, _, _, [], _, [], hW', trodAll_mk1 (shut_bool Try.underlying4 _), (trodAll_cons_mk (Below.trod laidOut (by kernel_rfl) (of_decide_eq_true (by kernel_rfl)) k0 bel lt0) (trodAll_cons_mk (shut_int Try.underlying3 w1) (trodAll_cons_mk (shut_int Try.underlying3 w2) trodAll_mk0))), rfl, bel.frame _, fun h => by cases h⟩

theorem over : Rows.labelsPartsRow.holds Try.pinned (OpenSpec.ofChange Rows.labelsPartsSpec) :=
  OpenClaim.holds_of_wide 5 Try.f5 rfl rfl rfl rfl rfl rfl rfl ⟨rfl, rfl, rfl, rfl, rfl⟩ rfl rfl rfl rfl rfl (by kernel_rfl) Try.func5 (by kernel_rfl)
    (of_decide_eq_true (by kernel_rfl)) (by unfold Func.isWrapper; first | (rw [if_pos (by decide +kernel)]; kernel_rfl) | (rw [if_neg (by decide +kernel)]; exact ⟨rfl, rfl⟩))
    (fun os started H enc _ => lifted os started H enc)

theorem proved : Rows.LabelsPartsSaid := over
#print axioms proved

end Go.Proofs.Ythcbekccnmdgaab.labelsParts
