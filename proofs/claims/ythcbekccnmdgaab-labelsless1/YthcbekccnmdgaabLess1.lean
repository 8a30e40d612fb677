/- For any labels the law LabelsLess1 of the program returns true and leaves them as they were: a row without its last label is less than the row, and so is one whose last value has one byte fewer. No condition. -/
import Derived.Test.YthcbekccnmdgaabG
import Derived.Test.YthcbekccnmdgaabAw
import Derived.Deep.RegionHeld3
namespace Go.Proofs.Ythcbekccnmdgaab.labelsLess1
open Go.ChangeShapes Go.WideShapes Go.ChangeAt Go.RowKit
set_option linter.unusedVariables false

theorem last_of {l : List Lb} {p : Nat} {x : Lb} (hp : l.length = p + 1) (hx : l[p]? = some x) : l = l.take p ++ [x] := by
  obtain ⟨h, rfl⟩ := List.getElem?_eq_some_iff.1 hx
  have := List.take_succ_eq_append_getElem h
  rw [List.take_of_length_le (by omega)] at this
  exact this
/-- the row with another last value. -/
theorem cut_set {B : Nat} {w : World} {g c p n : Nat} {l : List Lb} {xn xv y : Tx} (h : OwnL B w (.slice (some ⟨g, 0, none⟩) n c) l) (hn : l.length = n) (hp : l.length = p + 1) (hx : l[p]? = some (xn, xv)) (hy : y.length ≤ maxLen) :
    IsLs (w.setCell ⟨g, p * 2 + 1, none⟩ (.string ⟨y.toArray⟩)) (.slice (some ⟨g, 0, none⟩) n c) (l.take p ++ [(xn, y)]) := by
  have hl : (l.take p ++ [(xn, y)]).length = n := by simp; omega
  obtain ⟨_, h2, h3⟩ := h.isL.bound
  rcases h.form with ⟨e, _⟩ | ⟨g', c', cur, e, h4, h5, h6, h7, h8, h9⟩
  · cases e
  · rw [hn] at e
    cases e
    have hb := heap_set_at h7 (b := g) (o := p * 2 + 1) (.string ⟨y.toArray⟩)
    refine ⟨by rw [hl]; unfold maxLen; omega, fun z hz => ?_, some ⟨g, 0, none⟩, c, by rw [hl], by omega, h5, .inr ⟨g, 0, rfl, fun i z hz => ?_⟩⟩
    · rcases List.mem_append.1 hz with hz | hz
      · exact h.1 z (List.mem_of_mem_take hz)
      · simp at hz
        subst hz
        exact ⟨(h.1 _ (List.mem_of_getElem? hx)).1, hy⟩
    · rw [cell_of hb, cell_of hb, Nat.zero_add, Array.getElem?_setIfInBounds, Array.getElem?_setIfInBounds]
      have hi : i < p + 1 := by have := (List.getElem?_eq_some_iff.1 hz).1; omega
      by_cases e : i = p
      · subst e
        rw [List.getElem?_append_right (by simp; omega)] at hz
        have : i - (l.take i).length = 0 := by simp; omega
        rw [this] at hz
        simp at hz
        subst hz
        rw [if_neg (by omega), if_pos rfl, if_pos (by rw [h8]; omega)]
        exact ⟨h9 _ _ (cellsL_at l i _ hx).1, rfl⟩
      · rw [if_neg (by omega), if_neg (by omega)]
        rw [List.getElem?_append_left (by simp; omega), List.getElem?_take_of_lt (by omega)] at hz
        obtain ⟨e1, e2⟩ := cellsL_at l i _ hz
        exact ⟨h9 _ _ e1, h9 _ _ e2⟩
set_option maxHeartbeats 1000000 in
theorem walkP (a0 : Option Addr) (c0 n p : Nat) (l : List Lb) (w : World) (h0 : IsLs w (.slice a0 n c0) l) (hn : l.length = n) (hp : l.length = p + 1) :
    Calls Try.prog 4 #[.slice a0 n c0] w fun e w' => e = .returned (.bool true) ∧ Below w.heap.size w w' := by
  obtain ⟨-, hb⟩ := h0.bound
  replace h0 := hid h0
  have hnp : (n : Int) - 1 = (p : Int) := by omega
  have hn0 : ((n : Int) == 0) = false := by simp; omega
  have hn0' : (n == 0) = false := by simp; omega
  have hpn : (p : Int) < (n : Int) := by omega
  have hn100 : Hid (l.length ≤ 100 → p ≤ 99) := fun h => by omega
  replace hp := hid hp
  replace hn := hid hn
  go_enter Try.func4, Try.ntmps4
  go_wp2_with fail
  refine (awake_any w).mono ?_
  rintro e w0 ⟨rfl, b0⟩
  have B0 := hid b0
  clear b0
  go_wp2_with fail
  refine (great_any _ l w0 (h0.out.below B0.out)).mono ?_
  rintro e w1 ⟨r1, rfl, hf, q1, rfl⟩
  have B1 := hid (below_drewN (n := q1) B0.out)
  generalize w0.drewN q1 = w1 at *
  clear B0
  cases r1 with
  | true =>
    clear hf
    go_wp2
    go_ret
    exact ⟨rfl, B1.out⟩
  | false =>
    replace hf := hid (hf rfl)
    have hp100 : p ≤ 99 := hn100.out hf.out.1
    obtain ⟨b, off, rfl, hc⟩ := h0.out.at (k := p) (by have := hp.out; omega)
    obtain ⟨⟨xn, xv⟩, hx⟩ : ∃ x, l[p]? = some x := ⟨_, List.getElem?_eq_getElem (by have := hp.out; omega)⟩
    have hmid := (h0.out.mid hx).2
    obtain ⟨_, d1⟩ := hc p _ hx
    simp only at hmid d1
    obtain ⟨a1, c1, w2, hrun, ho2, hg2, -⟩ := appL_run (ownL_nil w1.heap.size w1) (h0.out.below B1.out) (by have := hp.out; simp; omega) (Nat.le_refl _)
    have b2 := appL_low (ownL_nil w1.heap.size w1) (Nat.le_refl _) hg2
    have B2 := hid (low' B1.out b2)
    simp only [List.length_nil, Nat.zero_add, List.nil_append, hn.out] at hrun ho2
    have hform : ∃ g, a1 = some ⟨g, 0, none⟩ := by
      rcases ho2.form with ⟨e, _⟩ | ⟨g, c, cur, e, _⟩
      · cases e
        omega
      · rw [hn.out] at e; cases e; exact ⟨g, rfl⟩
    obtain ⟨g, rfl⟩ := hform
    have hgB := (ho2.lt (k := g) rfl).1
    have hw1 := B1.out.size
    obtain ⟨-, hpc1, hc1m⟩ := ho2.isL.bound
    have hlast := hid (last_of hp.out hx)
    have hcx := hid hx
    replace ho2 := hid ho2
    replace d1 := hid (fun W (hW : Below w.heap.size w W) => (hW.cell (p := ⟨b, off + p * 2 + 1, none⟩) (World.block_lt_of_cell? w _ d1)).trans d1)
    have hpc : (p : Int) ≤ (c1 : Int) := by omega
    clear hg2 b2 hc hx
    go_wp2_with (at_builtin; refine wpList_append_run _ rfl _ _ 24 rfl _ _ _ _ rfl rfl hrun ?_)
    have hcut := hid (fun W (hW : Below w2.heap.size w2 W) => by
      have := ((ho2.out.below hW).isL).part 0 p (by omega) (by omega) p c1 (by omega) (by omega) (by unfold maxLen; omega)
      rw [Nat.zero_mul, List.drop_zero] at this
      exact this)
    have hL1 : Hid (lessL (l.take p) l = true) := by
      unfold Hid
      have := less_snoc (l.take p) (xn, xv)
      rw [← hlast.out] at this
      exact this
    have hL2 : Hid (lessL l (l.take p) = false) := less_asym hL1.out
    refine (less_any _ _ (l.take p) l w2 (hcut.out w2 (Below.refl _ _)) (h0.out.below B2.out)).mono ?_
    rintro e w3 ⟨rfl, b3⟩
    rw [hL1.out]
    have B3 := hid (low' B2.out b3)
    have C3 := hid b3
    clear b3
    go_wp2_with fail
    refine (less_any _ _ l (l.take p) w3 (h0.out.below B3.out) (hcut.out w3 C3.out)).mono ?_
    rintro e w4 ⟨rfl, b4⟩
    rw [hL2.out]
    have B4 := hid (low' B3.out b4)
    have C4 := hid (low' C3.out b4)
    clear b4 B3 C3
    have e4 := d1.out w4 B4.out
    unfold str at e4
    rcases List.eq_nil_or_concat xv with rfl | ⟨y, c, rfl⟩
    · go_wp2
      go_ret
      exact ⟨rfl, B4.out⟩
    · rw [List.concat_eq_append] at *
      have hxl : (y ++ [c] : Tx).length = y.length + 1 := by simp
      rw [hxl] at hmid
      have hyl : ((y.length : Int) + 1 == 0) = false := by simp; omega
      have hyw : IntKind.i64.wrap ((y.length : Int) + 1 - 1) = (y.length : Int) := by rw [IntKind.wrap_i64]; omega
      have hex : (⟨(y ++ [c]).toArray⟩ : ByteArray).extract 0 y.length = ⟨y.toArray⟩ := by
        rw [ext_str, List.drop_zero, List.take_left]
      have o4 := ho2.out.below C4.out
      have hfr : w4.frozen? ⟨g, p * 2 + 1, none⟩ = false ∧ w4.cell? ⟨g, p * 2 + 1, none⟩ = some (.string ⟨(y ++ [c]).toArray⟩) := by
        rcases o4.form with ⟨e, _⟩ | ⟨g', c', cur, e, h4, h5, h6, h7, h8, h9⟩
        · cases e
        · cases e
          refine ⟨frozen_of h7 _, ?_⟩
          rw [cell_of h7]
          exact h9 _ _ (cellsL_at l p _ hcx.out).2
      obtain ⟨f4, g4⟩ := hfr
      have hcs := hid (cut_set (y := y) o4 hn.out hp.out hcx.out (by unfold maxLen; omega))
      have hBs : Hid (Below w.heap.size w (w4.setCell ⟨g, p * 2 + 1, none⟩ (.string ⟨y.toArray⟩))) := B4.out.trans ⟨rfl, rfl, rfl, by rw [size_set]; exact Nat.le_refl _, fun k hk => heap_set _ _ _ _ _ (by omega)⟩
      have hM1 : Hid (lessL (l.take p ++ [(xn, y)]) l = true) := by
        unfold Hid
        have := less_cut (l.take p) xn y c
        rw [← hlast.out] at this
        exact this
      have hM2 : Hid (lessL l (l.take p ++ [(xn, y)]) = false) := less_asym hM1.out
      clear o4
      go_wp2_with fail
      generalize w4.setCell ⟨g, p * 2 + 1, none⟩ (.string ⟨y.toArray⟩) = w5 at *
      refine (less_any _ _ _ l w5 hcs.out (h0.out.below hBs.out)).mono ?_
      rintro e w6 ⟨rfl, b6⟩
      rw [hM1.out]
      have B6 := hid (low' hBs.out b6)
      have hcs6 := hid (hcs.out.below b6)
      clear b6
      go_wp2_with fail
      refine (less_any _ _ l _ w6 (h0.out.below B6.out) hcs6.out).mono ?_
      rintro e w7 ⟨rfl, b7⟩
      rw [hM2.out]
      have B7 := hid (low' B6.out b7)
      go_wp2
      go_ret
      exact ⟨rfl, B7.out⟩
theorem walk (v0 : Value) (l : List Lb) (w : World) (h0 : IsLs w v0 l) :
    Calls Try.prog 4 #[v0] w fun e w' => e = .returned (.bool true) ∧ Below w.heap.size w w' := by
  obtain ⟨a0, c0, rfl⟩ := h0.slice
  have hb := h0.bound
  by_cases hne : l.length = 0
  · have hl : l = [] := List.eq_nil_of_length_eq_zero hne
    subst hl
    replace h0 := hid h0
    simp only [List.length_nil] at *
    go_enter Try.func4, Try.ntmps4
    go_wp2_with fail
    refine (awake_any w).mono ?_
    rintro e w0 ⟨rfl, b0⟩
    have B0 := hid b0
    clear b0
    go_wp2_with fail
    refine (great_any _ [] w0 (h0.out.below B0.out)).mono ?_
    rintro e w1 ⟨r1, rfl, hf, q1, rfl⟩
    have B1 := hid (below_drewN (n := q1) B0.out)
    generalize w0.drewN q1 = w1 at *
    clear B0 hf
    cases r1 with
    | true =>
      go_wp2
      go_ret
      exact ⟨rfl, B1.out⟩
    | false =>
      go_wp2
      go_ret
      exact ⟨rfl, B1.out⟩
  · obtain ⟨p, hp⟩ : ∃ p, l.length = p + 1 := ⟨l.length - 1, by omega⟩
    exact walkP a0 c0 _ p l w h0 rfl hp

theorem own : ownKnob Try.prog.godebug = none := by kernel_rfl
theorem laidOut : laidOutB Try.prog = true := by kernel_rfl

set_option maxRecDepth 100000 in
theorem lifted (os : Os) (started : os.Started) (H : Type) (enc : TypeId × Value → H) :
    ReturnsInHanded {} Try.checked os 4 .any (Rows.labelsLess1Spec.pre6 enc Try.prog Try.f4 Rows.labelsLess1Row.domain false) (Rows.labelsLess1Spec.post enc Try.prog Try.f4 false true false false) := by
  refine returnsInHanded_of_change (C := Try.checked) own started (by kernel_rfl) Try.func4
    (ChangeSpec.witness6 (enc := enc) (C := Try.checked) false ⟨#[], #[.slice none 0 0], []⟩ 8 (by kernel_rfl) (by kernel_rfl) (by kernel_rfl) (by kernel_rfl)) ?_
  intro W base args ds gs before hval0 hW hcnd _
  have hval : ∀ (j : Nat) t v, Try.f4.params[j]? = some t → args[j]? = some v → Value.okWide Try.prog W .any base t v := hval0
  have hW' := hW
  obtain ⟨p, q, hA0, hV, rfl, hfz, hnd⟩ := hW
  have hA : DataW.TrodAll enc Try.prog W 0 (fun _ => true) true Try.f4.params.toList args.toList ds p := hA0
  rw [Try.params4] at hA hval
  obtain ⟨v0, vs0, d0, ds0, p0, q0, hargs, rfl, rfl, h0, r0⟩ := trodAll_cons hA
  obtain ⟨rfl, rfl, rfl⟩ := trodAll_nil r0
  obtain rfl : args = #[v0] := by cases args; simp_all
  obtain ⟨rfl, rfl⟩ := trodVars_none hV
  have k0 := h0
  have lt0 : ∀ x ∈ p0, x.block < W.heap.size := by obtain ⟨m, hm⟩ := k0; exact DataW.trod_lt m _ _ _ hm
  obtain ⟨l0, w0⟩ := open_labs (hval 0 24 v0 rfl rfl) h0
  clear hA0 hval0
  refine (walk v0 l0 W w0).mono fun e W' ⟨he, bel⟩ => ?_
  subst he
  exact ⟨_, rfl, _, _, _, [], _, [], hW', trodAll_mk1 (shut_bool Try.underlying4 _), (trodAll_cons_mk (Below.trod laidOut (by kernel_rfl) (of_decide_eq_true (by kernel_rfl)) k0 bel lt0) trodAll_mk0), rfl, bel.frame _, fun h => by cases h⟩

theorem over : Rows.labelsLess1Row.holds Try.pinned (OpenSpec.ofChange Rows.labelsLess1Spec) :=
  OpenClaim.holds_of_wide 4 Try.f4 rfl rfl rfl rfl rfl rfl rfl ⟨rfl, rfl, rfl, rfl, rfl⟩ rfl rfl rfl rfl rfl (by kernel_rfl) Try.func4 (by kernel_rfl)
    (of_decide_eq_true (by kernel_rfl)) (by unfold Func.isWrapper; first | (rw [if_pos (by decide +kernel)]; kernel_rfl) | (rw [if_neg (by decide +kernel)]; exact ⟨rfl, rfl⟩))
    (fun os started H enc _ => lifted os started H enc)

theorem proved : Rows.LabelsLess1Said := over
#print axioms proved

end Go.Proofs.Ythcbekccnmdgaab.labelsLess1
