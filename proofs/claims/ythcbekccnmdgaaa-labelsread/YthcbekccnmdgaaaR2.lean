/- Contract of the document's May. -/
import Derived.Test.YthcbekccnmdgaaaR1
namespace Go.Proofs.Ythcbekccnmdgaaa
open Go.RowKit Go.Shelf

set_option maxHeartbeats 4000000 in
theorem rmay_any (v : Value) (l : List Lb) (w : World) (h : IsLs w v l) : Calls Try.prog 12 #[v] w fun e w' => e = .returned (.bool (mayL l)) ∧ ∃ n, w' = w.drewN n := by
  obtain ⟨a, c, rfl⟩ := h.slice
  have hb := h.bound
  replace h := hid h
  by_cases h4 : 4 < l.length
  · have e : Hid (false = mayL l) := by
      unfold Hid mayL
      rw [decide_eq_false (by omega : ¬ l.length ≤ 4)]
      simp
    have h4' : (4 : Int) < (l.length : Int) := by omega
    go_enter Try.func12, Try.ntmps12
    go_wp2
    go_ret
    exact ⟨ret_bool e.out, 0, rfl⟩
  have h4' : ¬ (4 : Int) < (l.length : Int) := by omega
  go_enter Try.func12, Try.ntmps12
  go_wp2
  go_loopw [3] (fun iv wr => ∃ j : Nat, j ≤ l.length ∧ iv = .int .i64 j ∧ Hid (∀ i x, i < j → l[i]? = some x → mayE x = true) ∧ Hid (∀ i x y, i + 1 < j → l[i]? = some x → l[i + 1]? = some y → x.1 < y.1) ∧ Hid (∃ q, wr = w.drewN q)) (fun iv _ => l.length - (intOf iv).toNat)
  case atStart => exact ⟨0, by omega, rfl, (fun i x hi => by omega), (fun i x y hi => by omega), 0, rfl⟩
  case round =>
    obtain ⟨j, hj, rfl, hp, hr, hB⟩ := hrel
    obtain ⟨V, rfl⟩ : ∃ V : World, V = wr := ⟨_, rfl⟩
    have hV : ∀ n, Hid (∃ q, V.drewN n = w.drewN q) := fun n => by
      obtain ⟨q, hq⟩ := hB.out
      exact ⟨q + n, by rw [hq, World.drewN_drewN]⟩
    replace hV := hid hV
    have hcV : ∀ b o, V.cell? ⟨b, o, none⟩ = w.cell? ⟨b, o, none⟩ := fun b o => by
      obtain ⟨q, hq⟩ := hB.out
      rw [hq]; rfl
    by_cases hlt : j < l.length
    · have hlt' : (j : Int) < (l.length : Int) := by omega
      obtain ⟨b, off, rfl, hc⟩ := h.out.at hlt
      obtain ⟨⟨xn, xv⟩, hx⟩ : ∃ x, l[j]? = some x := ⟨_, List.getElem?_eq_getElem hlt⟩
      obtain ⟨c0, c1⟩ := hc j _ hx
      obtain ⟨m0, m1⟩ := h.out.mid hx
      simp only at c0 c1 m0 m1
      rw [← hcV] at c0 c1
      have hn := hid (rmayName_any xn m0)
      have hv := hid (rmayValue_any xv m1)
      cases en : mayN xn
      · have e : Hid (false = mayL l) := by
          unfold Hid
          symm
          cases hm : mayL l
          · rfl
          · have := (mayL_mem hm (List.mem_of_getElem? hx)).1
            rw [en] at this; cases this
        rw [en] at hn
        clear hp hr hc hx hcV
        unfold str at *
        go_wp2_with fail
        go_quiet (first | (go_at_call 18; exact Calls.quiet_of_same (hn.out _)) | (go_at_call 20; exact Calls.quiet_of_same (hv.out _)))
        go_wp2
        go_ret
        exact ⟨ret_bool e.out, (hV.out _).out⟩
      rw [en] at hn
      cases ev : mayV xv
      · have e : Hid (false = mayL l) := by
          unfold Hid
          symm
          cases hm : mayL l
          · rfl
          · have := (mayL_mem hm (List.mem_of_getElem? hx)).2
            rw [ev] at this; cases this
        rw [ev] at hv
        clear hp hr hc hx hcV
        unfold str at *
        go_wp2_with fail
        go_quiet (first | (go_at_call 18; exact Calls.quiet_of_same (hn.out _)) | (go_at_call 20; exact Calls.quiet_of_same (hv.out _)))
        go_wp2
        go_ret
        exact ⟨ret_bool e.out, (hV.out _).out⟩
      rw [ev] at hv
      have hp' : Hid (∀ i x, i < j + 1 → l[i]? = some x → mayE x = true) := fun i x hi hx' => by
        by_cases e : i = j
        · subst e
          rw [hx] at hx'
          cases hx'
          unfold mayE
          rw [en, ev]; rfl
        · exact hp.out i x (by omega) hx'
      clear hp en ev
      by_cases hj0 : j = 0
      · have hr' : Hid (∀ i x y, i + 1 < j + 1 → l[i]? = some x → l[i + 1]? = some y → x.1 < y.1) := fun i x y hi => by omega
        have hd : decide (0 < (j : Int)) = false := by simp; omega
        have hd2 : decide (0 < j) = false := by simp; omega
        clear hr hc hx hj0 hlt hcV
        unfold str at *
        go_wp2_with fail
        go_quiet (first | (go_at_call 18; exact Calls.quiet_of_same (hn.out _)) | (go_at_call 20; exact Calls.quiet_of_same (hv.out _)))
        go_wp2
        exact ⟨⟨j + 1, by omega, by go_num, hp', hr', hV.out _⟩, by simp [intOf]; omega⟩
      · obtain ⟨k, hk⟩ : ∃ k, j = k + 1 := ⟨j - 1, by omega⟩
        obtain ⟨⟨yn, yv⟩, hy⟩ : ∃ y, l[k]? = some y := ⟨_, List.getElem?_eq_getElem (by omega)⟩
        have c2 := (hc k _ hy).1
        simp only at c2
        rw [← hcV] at c2
        have hd : decide (0 < (j : Int)) = true := by simp; omega
        have hd2 : decide (0 < j) = true := by simp; omega
        have hw : IntKind.i64.wrap ((j : Int) - 1) = (k : Int) := by rw [IntKind.wrap_i64]; omega
        have hkl : (k : Int) < (l.length : Int) := by omega
        have hkl2 : k < l.length := by omega
        have hbl2 := bless yn xn
        by_cases hyx : yn < xn
        · rw [decide_eq_true hyx] at hbl2
          have hr' : Hid (∀ i x y, i + 1 < j + 1 → l[i]? = some x → l[i + 1]? = some y → x.1 < y.1) := fun i x y hi h1 h2 => by
            by_cases e : i + 1 = j
            · obtain rfl : i = k := by omega
              rw [hy] at h1
              rw [← hk, hx] at h2
              cases h1
              cases h2
              exact hyx
            · exact hr.out i x y (by omega) h1 h2
          clear hk hr hc hx hj0 hlt hyx hcV
          unfold str at *
          go_wp2_with fail
          go_quiet (first | (go_at_call 18; exact Calls.quiet_of_same (hn.out _)) | (go_at_call 20; exact Calls.quiet_of_same (hv.out _)))
          go_wp2
          exact ⟨⟨j + 1, by omega, by go_num, hp', hr', hV.out _⟩, by simp [intOf]; omega⟩
        · rw [decide_eq_false hyx] at hbl2
          have e : Hid (false = mayL l) := by
            unfold Hid
            symm
            cases hm : mayL l
            · rfl
            · exact absurd ((mayL_iff.1 hm).2.2 k _ _ hy (by rw [← hk]; exact hx)) hyx
          clear hk hr hc hx hj0 hlt hyx hcV
          unfold str at *
          go_wp2_with fail
          go_quiet (first | (go_at_call 18; exact Calls.quiet_of_same (hn.out _)) | (go_at_call 20; exact Calls.quiet_of_same (hv.out _)))
          go_wp2
          go_ret
          exact ⟨ret_bool e.out, (hV.out _).out⟩
    · have hlt' : ¬ (j : Int) < (l.length : Int) := by omega
      obtain rfl : j = l.length := by omega
      have e : Hid (true = mayL l) := by
        unfold Hid
        symm
        rw [mayL_iff]
        refine ⟨by omega, fun x hx => ?_, fun i x y hx hy => hr.out i x y (List.getElem?_eq_some_iff.1 hy).1 hx hy⟩
        obtain ⟨i, hi⟩ := List.mem_iff_getElem?.1 hx
        exact hp.out i x (List.getElem?_eq_some_iff.1 hi).1 hi
      clear hp hr hcV
      go_wp2
      go_ret
      exact ⟨ret_bool e.out, hB.out⟩
end Go.Proofs.Ythcbekccnmdgaaa
