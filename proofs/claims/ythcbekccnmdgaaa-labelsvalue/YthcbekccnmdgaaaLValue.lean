/- For any labels and any name the law LabelsValue of the program returns true and leaves them as they were: each label's value is told by its name, and no other name has one. No condition. -/
import Derived.Test.YthcbekccnmdgaaaG
import Derived.Test.YthcbekccnmdgaaaAw
import Derived.Deep.RegionHeld3
namespace Go.Proofs.Ythcbekccnmdgaaa.labelsValue
open Go.ChangeShapes Go.WideShapes Go.ChangeAt Go.RowKit
open Go.ChangeMaps (open_string shut_string)
set_option linter.unusedVariables false

set_option maxHeartbeats 4000000 in
theorem walk1 (v0 : Value) (l : List Lb) (n : Tx) (w : World) (h0 : IsLs w v0 l) (hn : n.length ≤ maxLen) :
    Calls Try.prog 8 #[v0, str n] w fun e w' => e = .returned (.bool true) ∧ Below w.heap.size w w' := by
  obtain ⟨a0, c0, rfl⟩ := h0.slice
  have hb := h0.bound
  replace h0 := hid h0
  unfold maxLen at hn
  unfold str
  go_enter Try.func8, Try.ntmps8
  go_wp2_with fail
  refine (awake_any w).mono ?_
  rintro e w0 ⟨rfl, b0⟩
  have B0 := hid b0
  clear b0
  go_wp2_with fail
  refine (great_any _ l w0 (h0.out.below B0.out)).mono ?_
  rintro e w1 ⟨r1, rfl, hf, q1, rfl⟩
  have B1 := hid (below_drewN (n := q1) B0.out)
  generalize w0.drewN q1 = w1 at *
  clear B0
  cases r1 with
  | true =>
    clear hf
    go_wp2
    go_ret
    exact ⟨rfl, B1.out⟩
  | false =>
    replace hf := hid (hf rfl)
    by_cases hn5 : 5000 < n.length
    · have hn5' : decide (5000 < (n.length : Int)) = true := by simp; omega
      have hn5'' : decide (5000 < n.length) = true := by simp; omega
      go_wp2
      go_ret
      exact ⟨rfl, B1.out⟩
    · have hn5' : decide (5000 < (n.length : Int)) = false := by simp; omega
      have hn5'' : decide (5000 < n.length) = false := by simp; omega
      go_wp2_with fail
      refine (may_any _ l w1 (h0.out.below B1.out)).mono ?_
      rintro e w2 ⟨rfl, b2⟩
      have B2 := hid (low' B1.out b2)
      clear b2 B1
      cases hm : mayL l with
      | false =>
        clear hm
        go_wp2
        go_ret
        exact ⟨rfl, B2.out⟩
      | true =>
        replace hm := hid hm
        have hvc : ∀ (m : Tx) W, Below w.heap.size w W → Calls Try.prog 15 #[.slice a0 l.length c0, .string ⟨m.toArray⟩] W fun e w' => e = .returned (.string ⟨(valueL l m).toArray⟩) ∧ Below W.heap.size W w' := fun m W hW => value_any _ l m W (h0.out.below hW)
        have hfd := hid (mayL_found hm.out n)
        replace hvc := hid hvc
        go_wp2
        go_loopw [5, 6] (fun fv iv wr => ∃ (j : Nat) (fb : Bool), j ≤ l.length ∧ iv = .int .i64 (j : Int) ∧ fv = .bool fb ∧ Hid (fb = (l.take j).any fun x => x.1 == n) ∧ Hid (Below w.heap.size w wr)) (fun _ iv _ => l.length - (intOf iv).toNat)
        case atStart => exact ⟨0, false, by omega, rfl, rfl, rfl, B2.out⟩
        case round =>
          obtain ⟨j, fb, hj, rfl, rfl, hfb, hB⟩ := hrel
          obtain ⟨V, rfl⟩ : ∃ V : World, V = wr := ⟨_, rfl⟩
          by_cases hlt : j < l.length
          · have hlt' : (j : Int) < (l.length : Int) := by omega
            obtain ⟨b, off, rfl, hc⟩ := h0.out.at hlt
            obtain ⟨⟨xn, xv⟩, hx⟩ : ∃ x, l[j]? = some x := ⟨_, List.getElem?_eq_getElem hlt⟩
            obtain ⟨c0', c1'⟩ := hc j _ hx
            simp only at c0' c1'
            have hcf : ∀ W, Below w.heap.size w W → W.cell? ⟨b, off + j * 2, none⟩ = some (.string ⟨xn.toArray⟩) ∧ W.cell? ⟨b, off + j * 2 + 1, none⟩ = some (.string ⟨xv.toArray⟩) := fun W hW => ⟨(hW.cell (p := ⟨b, off + j * 2, none⟩) (World.block_lt_of_cell? w _ c0')).trans c0', (hW.cell (p := ⟨b, off + j * 2 + 1, none⟩) (World.block_lt_of_cell? w _ c1')).trans c1'⟩
            obtain ⟨d0, d1⟩ := hcf V hB.out
            have hval : valueL l xn = xv := mayL_value hm.out (List.mem_of_getElem? hx)
            have hv2 := hid (fun W hW => hvc.out xn W hW)
            rw [hval] at hv2
            have hvv : (xv == xv) = true := by simp
            have hnew : ∀ r : Bool, r = (fb || xn == n) → Hid (r = (l.take (j + 1)).any fun x => x.1 == n) := fun r hr => by
              obtain ⟨hj', hxe⟩ := List.getElem?_eq_some_iff.1 hx
              unfold Hid
              rw [hr, hfb.out, List.take_succ_eq_append_getElem hj', List.any_append, hxe]
              simp
            replace hnew := hid hnew
            replace hcf := hid hcf
            clear c0' c1' hc hx hval hfb
            go_wp2_with fail
            go_region_held3 (fun w' => w'.cell? ⟨b, off + j * 2, none⟩ = some (.string ⟨xn.toArray⟩) ∧ w'.cell? ⟨b, off + j * 2 + 1, none⟩ = some (.string ⟨xv.toArray⟩)) (go_keep) (first | (go_at_call 15; refine (hv2.out _ (below_drewN (n := 1) hB.out)).mono ?_; rintro e w5 ⟨rfl, b5⟩; have B5 := hid (low' (below_drewN (n := 1) hB.out) b5); obtain ⟨j0, j1⟩ := hcf.out w5 B5.out; clear b5))
            clear hv2 hvc
            cases fb
            · go_wp2
              exact ⟨⟨j + 1, _, by omega, by go_num, rfl, hnew.out _ (by simp), B5.out⟩, by simp [intOf]; omega⟩
            · go_wp2
              exact ⟨⟨j + 1, _, by omega, by go_num, rfl, hnew.out _ (by simp), B5.out⟩, by simp [intOf]; omega⟩
          · have hlt' : ¬ (j : Int) < (l.length : Int) := by omega
            obtain rfl : j = l.length := by omega
            have hv2 := hid (hvc.out n V hB.out)
            have e := hfb.out
            rw [List.take_length, hfd.out] at e
            generalize valueL l n = z at *
            clear hfb hfd
            subst e
            go_wp2_with (go_at_call 15; refine hv2.out.mono ?_; rintro e w5 ⟨rfl, b5⟩; have B5 := hid (low' hB.out b5); clear b5)
            go_ret
            exact ⟨rfl, B5.out⟩
theorem walk (v0 : Value) (l : List Lb) (n : ByteArray) (w : World) (h0 : IsLs w v0 l) (hn : n.size ≤ maxLen) :
    Calls Try.prog 8 #[v0, .string n] w fun e w' => e = .returned (.bool true) ∧ Below w.heap.size w w' := by
  rw [str_of n]
  exact walk1 v0 l _ w h0 hn

theorem own : ownKnob Try.prog.godebug = none := by kernel_rfl
theorem laidOut : laidOutB Try.prog = true := by kernel_rfl

set_option maxRecDepth 100000 in
theorem lifted (os : Os) (started : os.Started) (H : Type) (enc : TypeId × Value → H) :
    ReturnsInHanded {} Try.checked os 8 .any (Rows.labelsValueSpec.pre6 enc Try.prog Try.f8 Rows.labelsValueRow.domain false) (Rows.labelsValueSpec.post enc Try.prog Try.f8 false true false false) := by
  refine returnsInHanded_of_change (C := Try.checked) own started (by kernel_rfl) Try.func8
    (ChangeSpec.witness6 (enc := enc) (C := Try.checked) false ⟨#[], #[.slice none 0 0, .string ⟨#[]⟩], []⟩ 8 (by kernel_rfl) (by kernel_rfl) (by kernel_rfl) (by kernel_rfl)) ?_
  intro W base args ds gs before hval0 hW hcnd _
  have hval : ∀ (j : Nat) t v, Try.f8.params[j]? = some t → args[j]? = some v → Value.okWide Try.prog W .any base t v := hval0
  have hW' := hW
  obtain ⟨p, q, hA0, hV, rfl, hfz, hnd⟩ := hW
  have hA : DataW.TrodAll enc Try.prog W 0 (fun _ => true) true Try.f8.params.toList args.toList ds p := hA0
  rw [Try.params8] at hA hval
  obtain ⟨v0, vs0, d0, ds0, p0, q0, hargs, rfl, rfl, h0, r0⟩ := trodAll_cons hA
  obtain ⟨v1, vs1, d1, ds1, p1, q1, rfl, rfl, rfl, h1, r1⟩ := trodAll_cons r0
  obtain ⟨rfl, rfl, rfl⟩ := trodAll_nil r1
  obtain rfl : args = #[v0, v1] := by cases args; simp_all
  obtain ⟨rfl, rfl⟩ := trodVars_none hV
  have k0 := h0
  have lt0 : ∀ x ∈ p0, x.block < W.heap.size := by obtain ⟨m, hm⟩ := k0; exact DataW.trod_lt m _ _ _ hm
  obtain ⟨l0, w0⟩ := open_labs (hval 0 22 v0 rfl rfl) h0
  obtain ⟨a1, rfl, rfl, rfl, w1⟩ := open_string Try.underlying9 (hval 1 9 v1 rfl rfl) h1
  clear hA0 hval0
  refine (walk v0 l0 a1 W w0 w1).mono fun e W' ⟨he, bel⟩ => ?_
  subst he
  exact ⟨_, rfl, _, _, _, [], _, [], hW', trodAll_mk1 (shut_bool Try.underlying4 _), (trodAll_cons_mk (Below.trod laidOut (by kernel_rfl) (of_decide_eq_true (by kernel_rfl)) k0 bel lt0) (trodAll_cons_mk (shut_string Try.underlying9 w1) trodAll_mk0)), rfl, bel.frame _, fun h => by cases h⟩

theorem over : Rows.labelsValueRow.holds Try.pinned (OpenSpec.ofChange Rows.labelsValueSpec) :=
  OpenClaim.holds_of_wide 8 Try.f8 rfl rfl rfl rfl rfl rfl rfl ⟨rfl, rfl, rfl, rfl, rfl⟩ rfl rfl rfl rfl rfl (by kernel_rfl) Try.func8 (by kernel_rfl)
    (of_decide_eq_true (by kernel_rfl)) (by unfold Func.isWrapper; first | (rw [if_pos (by decide +kernel)]; kernel_rfl) | (rw [if_neg (by decide +kernel)]; exact ⟨rfl, rfl⟩))
    (fun os started H enc _ => lifted os started H enc)

theorem proved : Rows.LabelsValueSaid := over
#print axioms proved

end Go.Proofs.Ythcbekccnmdgaaa.labelsValue
