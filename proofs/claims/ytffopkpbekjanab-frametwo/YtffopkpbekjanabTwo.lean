/- For any two slices of slices of bytes the law FrameTwo of the program returns true and leaves the bytes as they were: frames of two rows of records one behind the other are told one row behind the other. No condition. -/
import Derived.Test.YtffopkpbekjanabAwake
import Derived.Test.YtffopkpbekjanabOpen3
import Derived.Test.YtffopkpbekjanabFd
import Derived.Test.YtffopkpbekjanabToP
namespace Go.Proofs.Ytffopkpbekjanab.frameTwo
open Go.ChangeShapes Go.WideShapes Go.ChangeAt Go.RowKit
set_option linter.unusedVariables false

theorem big_no {l : List (List Int)} (h : big l = false) : l.length ≤ 100 ∧ l.flatten.length ≤ 20000 ∧ ∀ p ∈ l, p.length ≤ 20000 := by
  simp only [big, Bool.or_eq_false_iff, decide_eq_false_iff_not] at h
  refine ⟨by omega, by omega, fun p hp => ?_⟩
  obtain ⟨i, hi, rfl⟩ := List.getElem_of_mem hp
  have := piece_le l i hi
  simp [List.getD, List.getElem?_eq_getElem hi] at this
  have h2 := h.2
  simp at h2
  omega
theorem sliceInfo : (Try.prog.info? 22).map (fun i => (i.zero, i.size, i.bytes)) = some (some (.slice none 0 0), 1, 24) := by kernel_rfl
/-- the values that a slice of slices holds. -/
def Holds (w : World) (vs : List Value) (l : List (List Int)) : Prop := vs.length = l.length ∧ ∀ i, i < l.length → ∃ u, vs[i]? = some u ∧ IsB w u (l.getD i [])
theorem Holds.app {w : World} {vs us : List Value} {l m : List (List Int)} (h : Holds w vs l) (k : Holds w us m) : Holds w (vs ++ us) (l ++ m) := by
  refine ⟨by simp [h.1, k.1], fun i hi => ?_⟩
  by_cases hl : i < l.length
  · obtain ⟨u, h1, h2⟩ := h.2 i hl
    refine ⟨u, by rw [List.getElem?_append_left (by rw [h.1]; exact hl)]; exact h1, ?_⟩
    have : (l ++ m).getD i [] = l.getD i [] := by simp [List.getD, List.getElem?_append_left hl]
    rw [this]; exact h2
  · simp at hi
    obtain ⟨u, h1, h2⟩ := k.2 (i - l.length) (by omega)
    refine ⟨u, by rw [List.getElem?_append_right (by rw [h.1]; omega), h.1]; exact h1, ?_⟩
    have : (l ++ m).getD i [] = m.getD (i - l.length) [] := by simp [List.getD, List.getElem?_append_right (show l.length ≤ i by omega)]
    rw [this]; exact h2
theorem Holds.below {w w' : World} {vs : List Value} {l : List (List Int)} (h : Holds w vs l) (hb : Below w.heap.size w w') : Holds w' vs l :=
  ⟨h.1, fun i hi => by obtain ⟨u, h1, h2⟩ := h.2 i hi; exact ⟨u, h1, h2.below hb⟩⟩
theorem isP_row {w : World} {B n : Nat} {v : Value} {vs : List Value} {l : List (List Int)} (hr : w.ownsRow B 22 1 v n vs) (h : Holds w vs l) : IsP w v l := by
  have hn : n = l.length := by have := hr.1; rw [h.1] at this; omega
  subst hn
  rcases hr.2 with ⟨e, h0⟩ | ⟨g, cap, cur, e, _, _, h1, h2, _⟩
  · exact ⟨by rw [h0]; simp, none, 0, by rw [e, h0], .inl (List.eq_nil_of_length_eq_zero h0)⟩
  · refine ⟨by omega, _, cap, e, .inr ⟨g, 0, rfl, fun i hi => ?_⟩⟩
    obtain ⟨u, h3, h4⟩ := h.2 i hi
    have := hr.cells (g := g) (by rw [e]; rfl) i u h3
    rw [Addr.add_lit] at this
    exact ⟨u, this, h4⟩
theorem appP_run {w0 w : World} {base n : Nat} {v v2 : Value} {xs : List Value} {l : List (List Int)} (hr : w.ownsRow base 22 1 v n xs) (h2 : IsP w0 v2 l) (hb0 : Below w0.heap.size w0 w) (hl : n + l.length ≤ 100000) (hb : base ≤ w.heap.size) :
    ∃ a' c' w' vs, (∀ ty, (Builtin.append_ #[31, 31] ty #[v, v2]).run Try.prog w = .ok (.slice a' (n + l.length) c') w') ∧ w'.ownsRow base 22 1 (.slice a' (n + l.length) c') (n + l.length) (xs ++ vs) ∧ w.grownBy w' v.ownBlock ∧ Holds w0 vs l := by
  obtain ⟨i0, hi, hz0, hz1, hz2⟩ := info_parts sliceInfo
  have some_case : ∀ (ad : Addr) (c : Nat) (vs : List Value), v2 = .slice (some ad) l.length c → vs.length = l.length → (∀ u ∈ vs, u.oneCell' = true) → (∀ j u, vs[j]? = some u → w.cell? (ad.add j) = some u) → Holds w0 vs l → ∃ a' c' w' vs, (∀ ty, (Builtin.append_ #[31, 31] ty #[v, v2]).run Try.prog w = .ok (.slice a' (n + l.length) c') w') ∧ w'.ownsRow base 22 1 (.slice a' (n + l.length) c') (n + l.length) (xs ++ vs) ∧ w.grownBy w' v.ownBlock ∧ Holds w0 vs l := by
    intro ad c vs e hlen hone hcells hH
    subst e
    obtain ⟨v', w', hrun, h3, h4, _, _⟩ := run_append_own_at (P := Try.prog) w base 31 0 22 i0 (.slice none 0 0) 1 24 Try.underlying31 hi hz0 hz1 hz2 rfl (by decide) v n xs hr ad l.length c vs (by omega) hcells hone (by unfold maxLen; omega) (by omega) hb
    obtain ⟨a', c', rfl⟩ := row_slice h3
    exact ⟨a', c', w', vs, fun ty => hrun, h3, h4, hH⟩
  obtain ⟨hm, a, c, hv, hc⟩ := h2
  rcases hc with rfl | ⟨g, off, rfl, hc⟩
  · cases a with
    | some ad => exact some_case ad c [] hv rfl (by simp) (by simp) ⟨rfl, by simp⟩
    | none =>
      subst hv
      obtain ⟨av, cv, e⟩ := row_slice hr
      have hcap : n ≤ cv := by
        rcases hr.2 with ⟨e1, h0⟩ | ⟨g, c', cur, e1, _, _, h1, _⟩
        · omega
        · rw [e1] at e; cases e; exact h1
      have ht := Try.underlying31
      refine ⟨av, cv, w, [], fun ty => ?_, ?_, ⟨rfl, rfl, rfl, Nat.le_refl _, fun _ _ _ => rfl⟩, ⟨rfl, by simp⟩⟩
      · rw [e]
        cases av <;> simp [Builtin.append_, run_underlying ht, sizeOf, typeInfo, hi, Builtin.lenOf, Builtin.firstCells, loadCells, hcap, storeCells, Result.andThen]
      · rw [e] at hr; simpa using hr
  · have key : ∀ j, j < l.length → ∃ u, (w0.cell? ⟨g, off + j, none⟩).getD undef = u ∧ w.cell? ⟨g, off + j, none⟩ = some u ∧ IsB w0 u (l.getD j []) := fun j hj => by
      obtain ⟨u, h1, h3⟩ := hc j hj
      exact ⟨u, by rw [h1]; rfl, (hb0.cell (p := ⟨g, off + j, none⟩) (World.block_lt_of_cell? w0 _ h1)).trans h1, h3⟩
    have at_ : ∀ j u, ((List.range l.length).map fun j => (w0.cell? ⟨g, off + j, none⟩).getD undef)[j]? = some u → j < l.length ∧ (w0.cell? ⟨g, off + j, none⟩).getD undef = u := fun j u hu => by
      have hj : j < l.length := by have := (List.getElem?_eq_some_iff.1 hu).1; simpa using this
      simp [List.getElem?_map, List.getElem?_range hj] at hu
      exact ⟨hj, hu⟩
    refine some_case ⟨g, off, none⟩ c ((List.range l.length).map fun j => (w0.cell? ⟨g, off + j, none⟩).getD undef) hv (by simp) (fun u hu => ?_) (fun j u hu => ?_) ⟨by simp, fun i hi => ?_⟩
    · obtain ⟨j, hj⟩ := List.getElem?_of_mem hu
      obtain ⟨hjl, he⟩ := at_ j u hj
      obtain ⟨u', h1, _, h3⟩ := key j hjl
      rw [he] at h1
      subst h1
      obtain ⟨a1, c1, rfl⟩ := h3.slice
      rfl
    · obtain ⟨hjl, he⟩ := at_ j u hu
      obtain ⟨u', h1, h2, _⟩ := key j hjl
      rw [he] at h1
      subst h1
      rw [Addr.add_lit]
      exact h2
    · obtain ⟨u, h1, _, h3⟩ := key i hi
      exact ⟨u, by simp [List.getElem?_map, List.getElem?_range hi, h1], h3⟩
set_option maxHeartbeats 4000000 in
theorem walk (v0 : Value) (l : List (List Int)) (v1 : Value) (m : List (List Int)) (w : World) (h0 : IsP w v0 l) (hcap : InCap v0 l) (h1 : IsP w v1 m) (hcap1 : InCap v1 m) :
    Calls Try.prog 4 #[v0, v1] w fun e w' => e = .returned (.bool true) ∧ Below w.heap.size w w' := by
  obtain ⟨a, c, rfl, hlc, hcm⟩ := hcap
  obtain ⟨a1, c1, rfl, hlc1, hcm1⟩ := hcap1
  replace h0 := hid h0
  replace h1 := hid h1
  have hgl := hid (fun (w' : World) (hb : Below w.heap.size w w') => great_any _ _ _ (h0.out.below hb))
  have hgm := hid (fun (w' : World) (hb : Below w.heap.size w w') => great_any _ _ _ (h1.out.below hb))
  cases hbl : big l
  · rw [hbl] at hgl
    cases hbm : big m
    · rw [hbm] at hgm
      obtain ⟨hl1, hl2, hl3⟩ := big_no hbl
      obtain ⟨hm1, hm2, hm3⟩ := big_no hbm
      have hrl := rows_le l hl2
      have hrm := rows_le m hm2
      have hR := hid (show Reads (rows l ++ rows m) (l ++ m) [] by
        rw [← rows_app]
        refine all_of_rows fun p hp => ?_
        rcases List.mem_append.1 hp with hp | hp
        · have := hl3 p hp; omega
        · have := hm3 p hp; omega)
      replace hl3 := hid hl3
      replace hm3 := hid hm3
      go_enter Try.func4, Try.ntmps4
      go_wp2_with fail
      refine (awake_any _).mono ?_
      rintro e w1 ⟨rfl, b1⟩
      have B1 := hid b1
      clear b1
      go_wp2_with fail
      refine (hgl.out _ B1.out).mono ?_
      rintro e w1' ⟨rfl, hw⟩
      subst hw
      go_wp2_with fail
      refine (hgm.out _ B1.out).mono ?_
      rintro e w1' ⟨rfl, hw⟩
      subst hw
      go_wp2_with fail
      refine (framed_any _ _ _ (h0.out.below B1.out) hbl).mono ?_
      rintro e w2 ⟨fa, fc, ea, ec, rfl, o2, e2, b2⟩
      have B2 := hid (low' B1.out b2)
      have O2 := hid (o2.base B1.out.size)
      clear o2 e2 b2 B1 hgl hgm
      go_wp2_with fail
      refine (framed_any _ _ _ (h1.out.below B2.out) hbm).mono ?_
      rintro e w3 ⟨ga, gc, ea3, ec3, rfl, o3, e3, b3⟩
      have O23 := O2.out.below b3
      have b23 := low' B2.out b3
      obtain ⟨ra, rc, w4, r4, o4, g4, _⟩ := app_run O23 o3.isB (by omega) b23.size
      have b4 := b23.trans (app_low O23 b23.size g4)
      obtain ⟨xa, xc, w5, vs, r5, x5, g5, H5⟩ := appP_run (World.ownsRow_nil w4 w.heap.size 22 1) h0.out b4 (by omega) b4.size
      simp only [Nat.zero_add, List.nil_append] at r5 x5
      have b45 : Below w4.heap.size w4 w5 := ⟨g5.os, g5.tape, g5.output, g5.size, fun j hj => g5.block j hj (by intro e; cases e)⟩
      have b5 := low' b4 b45
      have o5 := o4.below b45
      obtain ⟨ya, yc, w6, us, r6, x6, g6, H6⟩ := appP_run x5 h1.out b5 (by omega) b5.size
      have b56 : Below w.heap.size w5 w6 := ⟨g6.os, g6.tape, g6.output, g6.size, fun j hj => g6.block j (by have := b5.size; omega) (fun e => by have := (x5.lt j e.symm).1; omega)⟩
      have b6 := b5.trans b56
      have o6 : Own w.heap.size w6 (.slice ra ((rows l).length + (rows m).length) rc) (rows l ++ rows m) := o5.keep fun j hj => g6.block j (o5.lt hj).2 fun e => apart o5.2 x5 (by decide) hj e.symm
      have hlm : l.length + m.length = (l ++ m).length := by simp
      rw [hlm] at x6 r6
      have hP6 := isP_row x6 ((H5.app H6).below b6)
      have hrr : (rows l).length + (rows m).length = (rows (l ++ m)).length := by rw [rows_app]; simp
      have ht := hid (tells_yes _ _ _ _ _ _ o6.isB hP6 hR.out (by simp; omega))
      rw [← hrr] at ht
      have B6 := hid b6
      clear O2 O23 b23 o3 e3 b3 g4 b4 g5 b45 b5 o5 g6 b56 b6 o6 hP6 x5 x6 o4 H5 H6 hrr hlm
      generalize (rows l).length = L at *
      generalize (rows m).length = N at *
      go_wp2_with (first | (at_builtin; refine wpList_append_run _ rfl _ _ 22 rfl _ _ _ _ rfl rfl r4 ?_; clear r4) | (at_builtin; refine wpList_append_run _ rfl _ _ 31 rfl _ _ _ _ rfl rfl r5 ?_; clear r5) | (at_builtin; refine wpList_append_run _ rfl _ _ 31 rfl _ _ _ _ rfl rfl r6 ?_; clear r6))
      have ht' := ht.out
      rw [List.length_append, Int.natCast_add] at ht'
      refine ht'.mono ?_
      rintro e w7 ⟨rfl, b7⟩
      have B7 := hid (low' B6.out b7)
      clear b7 ht'
      go_wp2
      go_ret
      exact ⟨rfl, B7.out⟩
    · rw [hbm] at hgm
      go_enter Try.func4, Try.ntmps4
      go_wp2_with fail
      refine (awake_any _).mono ?_
      rintro e w1 ⟨rfl, b1⟩
      have B1 := hid b1
      clear b1
      go_wp2_with fail
      refine (hgl.out _ B1.out).mono ?_
      rintro e w1' ⟨rfl, hw⟩
      subst hw
      go_wp2_with fail
      refine (hgm.out _ B1.out).mono ?_
      rintro e w1' ⟨rfl, hw⟩
      subst hw
      go_wp2
      go_ret
      exact ⟨rfl, B1.out⟩
  · rw [hbl] at hgl
    go_enter Try.func4, Try.ntmps4
    go_wp2_with (first | (go_at_call 5; refine (awake_any _).mono ?_; rintro e w1 ⟨rfl, hb⟩) | (go_at_call 10; refine (hgl.out _ hb).mono ?_; rintro e w2 ⟨rfl, rfl⟩))
    go_ret
    exact ⟨rfl, hb⟩

theorem own : ownKnob Try.prog.godebug = none := by kernel_rfl
theorem laidOut : laidOutB Try.prog = true := by kernel_rfl

set_option maxRecDepth 100000 in
theorem lifted (os : Os) (started : os.Started) (H : Type) (enc : TypeId × Value → H) :
    ReturnsInHanded {} Try.checked os 4 .any (Rows.frameTwoSpec.pre6 enc Try.prog Try.f4 Rows.frameTwoRow.domain false) (Rows.frameTwoSpec.post enc Try.prog Try.f4 false true false false) := by
  refine returnsInHanded_of_change (C := Try.checked) own started (by kernel_rfl) Try.func4
    (ChangeSpec.witness6 (enc := enc) (C := Try.checked) false ⟨#[], #[.slice none 0 0, .slice none 0 0], []⟩ 8 (by kernel_rfl) (by kernel_rfl) (by kernel_rfl) (by kernel_rfl)) ?_
  intro W base args ds gs before hval0 hW hcnd _
  have hval : ∀ (j : Nat) t v, Try.f4.params[j]? = some t → args[j]? = some v → Value.okWide Try.prog W .any base t v := hval0
  have hW' := hW
  obtain ⟨p, q, hA0, hV, rfl, hfz, hnd⟩ := hW
  have hA : DataW.TrodAll enc Try.prog W 0 (fun _ => true) true Try.f4.params.toList args.toList ds p := hA0
  rw [Try.params4] at hA hval
  obtain ⟨v0, vs0, d0, ds0, p0, q0, hargs, rfl, rfl, h0, r0⟩ := trodAll_cons hA
  obtain ⟨v1, vs1, d1, ds1, p1, q1, rfl, rfl, rfl, h1, r1⟩ := trodAll_cons r0
  obtain ⟨rfl, rfl, rfl⟩ := trodAll_nil r1
  obtain rfl : args = #[v0, v1] := by cases args; simp_all
  obtain ⟨rfl, rfl⟩ := trodVars_none hV
  have k0 := h0
  have lt0 : ∀ x ∈ p0, x.block < W.heap.size := by obtain ⟨m, hm⟩ := k0; exact DataW.trod_lt m _ _ _ hm
  obtain ⟨z0, w0, s0⟩ := open_pieces3 Try.underlying31 Try.underlying22 Try.underlying5 (by kernel_rfl) (by kernel_rfl) (hval 0 31 v0 rfl rfl) h0
  have k1 := h1
  have lt1 : ∀ x ∈ p1, x.block < W.heap.size := by obtain ⟨m, hm⟩ := k1; exact DataW.trod_lt m _ _ _ hm
  obtain ⟨z1, w1, s1⟩ := open_pieces3 Try.underlying31 Try.underlying22 Try.underlying5 (by kernel_rfl) (by kernel_rfl) (hval 1 31 v1 rfl rfl) h1
  clear hA0 hval0
  refine (walk v0 z0 v1 z1 W w0 s0 w1 s1).mono fun e W' ⟨he, bel⟩ => ?_
  subst he
  exact ⟨_, rfl, _, _, _, [], _, [], hW', trodAll_mk1 (shut_bool Try.underlying4 _), (trodAll_cons_mk (Below.trod laidOut (by kernel_rfl) (of_decide_eq_true (by kernel_rfl)) k0 bel lt0) (trodAll_cons_mk (Below.trod laidOut (by kernel_rfl) (of_decide_eq_true (by kernel_rfl)) k1 bel lt1) trodAll_mk0)), rfl, bel.frame _, fun h => by cases h⟩

theorem over : Rows.frameTwoRow.holds Try.pinned (OpenSpec.ofChange Rows.frameTwoSpec) :=
  OpenClaim.holds_of_wide 4 Try.f4 rfl rfl rfl rfl rfl rfl rfl ⟨rfl, rfl, rfl, rfl, rfl⟩ rfl rfl rfl rfl rfl (by kernel_rfl) Try.func4 (by kernel_rfl)
    (of_decide_eq_true (by kernel_rfl)) (by unfold Func.isWrapper; first | (rw [if_pos (by decide +kernel)]; kernel_rfl) | (rw [if_neg (by decide +kernel)]; exact ⟨rfl, rfl⟩))
    (fun os started H enc _ => lifted os started H enc)

theorem proved : Rows.FrameTwoSaid := over
#print axioms proved

end Go.Proofs.Ytffopkpbekjanab.frameTwo
