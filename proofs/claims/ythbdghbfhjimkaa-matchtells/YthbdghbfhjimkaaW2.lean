/- Contract of May. -/
import Derived.Test.YthbdghbfhjimkaaW1
namespace Go.Proofs.Ythbdghbfhjimkaa
open Go.RowKit Go.Shelf

theorem bless : ∀ (x y : Tx), Op.bytesLess x y = decide (x < y)
  | [], [] => by simp [Op.bytesLess]
  | _ :: _, [] => by simp [Op.bytesLess]
  | [], _ :: _ => by simp [Op.bytesLess]
  | a :: x, b :: y => by
    rw [Op.bytesLess, bless x y]
    simp only [List.cons_lt_cons_iff]
    by_cases h1 : a < b <;> by_cases h2 : a = b <;> by_cases h3 : x < y <;> simp [h1, h2, h3]
theorem bless_cb (x y : Tx) : Op.bytesLess x y = decide (cb x y < 0) := by
  rw [bless]
  exact decide_eq_decide.2 (lt_cb x y)
theorem beq_cb (x y : Tx) : (x == y) = decide (cb x y = 0) := by
  by_cases h : x = y
  · rw [decide_eq_true ((cb_eq x y).1 h)]; simpa using h
  · rw [decide_eq_false (fun e => h ((cb_eq x y).2 e))]; simpa using h
theorem ble_cb (x y : Tx) : (Op.bytesLess x y || x == y) = !decide (y < x) := by
  rw [bless_cb, beq_cb]
  have := cb_gt x y
  by_cases h : y < x
  · have h' := this.1 h
    rw [decide_eq_true h, decide_eq_false (by omega), decide_eq_false (by omega)]; rfl
  · have h' : ¬ 0 < cb x y := fun e => h (this.2 e)
    rw [decide_eq_false h]
    by_cases h0 : cb x y = 0
    · rw [decide_eq_true h0]; simp
    · rw [decide_eq_true (by omega : cb x y < 0)]; rfl
set_option maxHeartbeats 2000000 in
theorem may_any (v : Value) (l : List Lb) (w : World) (h : IsLs w v l) : Calls Try.prog 74 #[v] w fun e w' => e = .returned (.bool (mayL l)) ∧ Below w.heap.size w w' := by
  obtain ⟨a, c, rfl⟩ := h.slice
  have hb := h.bound
  replace h := hid h
  by_cases h4 : 4 < l.length
  · have e : Hid (false = mayL l) := by
      unfold Hid mayL
      rw [decide_eq_false (by omega : ¬ l.length ≤ 4)]
      simp
    have h4' : (4 : Int) < (l.length : Int) := by omega
    go_enter Try.func74, Try.ntmps74
    go_wp2
    go_ret
    exact ⟨ret_bool e.out, Below.refl _ _⟩
  have h4' : ¬ (4 : Int) < (l.length : Int) := by omega
  go_enter Try.func74, Try.ntmps74
  go_wp2
  go_loopw [10] (fun iv wr => ∃ j : Nat, j ≤ l.length ∧ iv = .int .i64 j ∧ Hid (∀ i x, i < j → l[i]? = some x → mayE x = true) ∧ Hid (∀ i x y, i + 1 < j → l[i]? = some x → l[i + 1]? = some y → x.1 < y.1) ∧ Hid (Below w.heap.size w wr)) (fun iv _ => l.length - (intOf iv).toNat)
  case atStart => exact ⟨0, by omega, rfl, (fun i x hi => by omega), (fun i x y hi => by omega), Below.refl _ _⟩
  case round =>
    obtain ⟨j, hj, rfl, hp, hr, hB⟩ := hrel
    obtain ⟨V, rfl⟩ : ∃ V : World, V = wr := ⟨_, rfl⟩
    by_cases hlt : j < l.length
    · have hlt' : (j : Int) < (l.length : Int) := by omega
      obtain ⟨b, off, rfl, hc⟩ := (h.out.below hB.out).at hlt
      obtain ⟨⟨xn, xv⟩, hx⟩ : ∃ x, l[j]? = some x := ⟨_, List.getElem?_eq_getElem hlt⟩
      obtain ⟨c0, c1⟩ := hc j _ hx
      have hbl := World.block_lt_of_cell? V _ c0
      obtain ⟨m0, m1⟩ := h.out.mid hx
      simp only at c0 c1 m0 m1 hbl
      have hn := hid (fun w => mayName_any xn w m0)
      have hv := hid (fun w => mayValue_any xv w m1)
      cases en : mayN xn
      · have e : Hid (false = mayL l) := by
          unfold Hid
          symm
          cases hm : mayL l
          · rfl
          · have := (mayL_mem hm (List.mem_of_getElem? hx)).1
            rw [en] at this; cases this
        rw [en] at hn
        clear hp hr hc hx
        unfold str at *
        go_wp2_with (first | (go_at_call 24; refine (hn.out _).mono ?_; rintro e w' ⟨rfl, rfl⟩) | (go_at_call 45; refine (hv.out _).mono ?_; rintro e w' ⟨rfl, rfl⟩))
        go_ret
        exact ⟨ret_bool e.out, low' hB.out (alloc_below _ _)⟩
      rw [en] at hn
      cases ev : mayV xv
      · have e : Hid (false = mayL l) := by
          unfold Hid
          symm
          cases hm : mayL l
          · rfl
          · have := (mayL_mem hm (List.mem_of_getElem? hx)).2
            rw [ev] at this; cases this
        rw [ev] at hv
        clear hp hr hc hx
        unfold str at *
        go_wp2_with (first | (go_at_call 24; refine (hn.out _).mono ?_; rintro e w' ⟨rfl, rfl⟩) | (go_at_call 45; refine (hv.out _).mono ?_; rintro e w' ⟨rfl, rfl⟩))
        go_ret
        exact ⟨ret_bool e.out, low' hB.out (alloc_below _ _)⟩
      rw [ev] at hv
      have hp' : Hid (∀ i x, i < j + 1 → l[i]? = some x → mayE x = true) := fun i x hi hx' => by
        by_cases e : i = j
        · subst e
          rw [hx] at hx'
          cases hx'
          unfold mayE
          rw [en, ev]; rfl
        · exact hp.out i x (by omega) hx'
      clear hp en ev
      have h4'' : j < 4 := by omega
      have hB' := fun (W : World) (hW : W.heap.size = V.heap.size + 1) (hb : Below V.heap.size V W) => hid (low' hB.out hb)
      by_cases hj0 : j = 0
      · have hr' : Hid (∀ i x y, i + 1 < j + 1 → l[i]? = some x → l[i + 1]? = some y → x.1 < y.1) := fun i x y hi => by omega
        have hd : decide (0 < (j : Int)) = false := by simp; omega
        have hd2 : decide (0 < j) = false := by simp; omega
        clear hr hc hx hj0 hlt
        unfold str at *
        go_wp2_with (first | (go_at_call 24; refine (hn.out _).mono ?_; rintro e w' ⟨rfl, rfl⟩) | (go_at_call 45; refine (hv.out _).mono ?_; rintro e w' ⟨rfl, rfl⟩))
        go_quiet (fail)
        go_wp2
        exact ⟨⟨j + 1, by omega, by go_num, hp', hr', hid (below_drewN (low' hB.out (alloc_below _ _)))⟩, by simp [intOf]; omega⟩
      · obtain ⟨k, hk⟩ : ∃ k, j = k + 1 := ⟨j - 1, by omega⟩
        obtain ⟨⟨yn, yv⟩, hy⟩ : ∃ y, l[k]? = some y := ⟨_, List.getElem?_eq_getElem (by omega)⟩
        have c2 := (hc k _ hy).1
        simp only at c2
        have hd : decide (0 < (j : Int)) = true := by simp; omega
        have hd2 : decide (0 < j) = true := by simp; omega
        have hw : IntKind.i64.wrap ((j : Int) - 1) = (k : Int) := by rw [IntKind.wrap_i64]; omega
        have hkl : (k : Int) < (l.length : Int) := by omega
        have hkl2 : k < l.length := by omega
        have hbl2 := ble_cb xn yn
        by_cases hyx : yn < xn
        · rw [decide_eq_true hyx] at hbl2
          have hr' : Hid (∀ i x y, i + 1 < j + 1 → l[i]? = some x → l[i + 1]? = some y → x.1 < y.1) := fun i x y hi h1 h2 => by
            by_cases e : i + 1 = j
            · obtain rfl : i = k := by omega
              rw [hy] at h1
              rw [← hk, hx] at h2
              cases h1
              cases h2
              exact hyx
            · exact hr.out i x y (by omega) h1 h2
          clear hk hr hc hx hj0 hlt hyx
          simp only [Bool.not_true] at hbl2
          unfold str at *
          go_wp2_with (first | (go_at_call 24; refine (hn.out _).mono ?_; rintro e w' ⟨rfl, rfl⟩) | (go_at_call 45; refine (hv.out _).mono ?_; rintro e w' ⟨rfl, rfl⟩))
          go_quiet (fail)
          go_wp2
          exact ⟨⟨j + 1, by omega, by go_num, hp', hr', hid (below_drewN (low' hB.out (alloc_below _ _)))⟩, by simp [intOf]; omega⟩
        · rw [decide_eq_false hyx] at hbl2
          have e : Hid (false = mayL l) := by
            unfold Hid
            symm
            cases hm : mayL l
            · rfl
            · exact absurd ((mayL_iff.1 hm).2.2 k _ _ hy (by rw [← hk]; exact hx)) hyx
          clear hk hr hc hx hj0 hlt hyx
          simp only [Bool.not_false] at hbl2
          unfold str at *
          go_wp2_with (first | (go_at_call 24; refine (hn.out _).mono ?_; rintro e w' ⟨rfl, rfl⟩) | (go_at_call 45; refine (hv.out _).mono ?_; rintro e w' ⟨rfl, rfl⟩))
          go_quiet (fail)
          go_wp2
          go_ret
          exact ⟨ret_bool e.out, below_drewN (low' hB.out (alloc_below _ _))⟩
    · have hlt' : ¬ (j : Int) < (l.length : Int) := by omega
      obtain rfl : j = l.length := by omega
      have e : Hid (true = mayL l) := by
        unfold Hid
        symm
        rw [mayL_iff]
        refine ⟨by omega, fun x hx => ?_, fun i x y hx hy => hr.out i x y (List.getElem?_eq_some_iff.1 hy).1 hx hy⟩
        obtain ⟨i, hi⟩ := List.mem_iff_getElem?.1 hx
        exact hp.out i x (List.getElem?_eq_some_iff.1 hi).1 hi
      clear hp hr
      go_wp2
      go_ret
      exact ⟨ret_bool e.out, hB.out⟩
end Go.Proofs.Ythbdghbfhjimkaa
