/- Contract of the document's own Does. -/
import Derived.Test.YthbdghbfhjimkaaX1
import Derived.Test.YthbdghbfhjimkaaQ1
namespace Go.Proofs.Ythbdghbfhjimkaa
open Go.RowKit Go.Shelf

theorem pre_take (z x : Tx) : Lib.hasPrefix z x = (decide (x.length ≤ z.length) && (z.take x.length == x)) := by
  by_cases h : x <+: z
  · obtain ⟨r, rfl⟩ := h
    rw [show Lib.hasPrefix (x ++ r) x = true from List.isPrefixOf_iff_prefix.2 ⟨r, rfl⟩]
    simp
  · rw [show Lib.hasPrefix z x = false by cases hp : Lib.hasPrefix z x; rfl; exact absurd (List.isPrefixOf_iff_prefix.1 hp) h]
    symm
    rw [Bool.and_eq_false_iff]
    right
    simp only [beq_eq_false_iff_ne, ne_eq]
    exact fun e => h ⟨z.drop x.length, by
      have := List.take_append_drop x.length z
      rw [e] at this
      exact this⟩
theorem value_len {l : List Lb} {k : Nat} (h : ∀ x ∈ l, x.2.length ≤ k) (n : Tx) : (valueL l n).length ≤ k := by
  induction l with
  | nil => simp [valueL]
  | cons x l ih =>
    rw [valueL]
    split
    · exact h x (by simp)
    · exact ih fun y hy => h y (by simp [hy])
set_option maxRecDepth 100000 in
set_option maxHeartbeats 4000000 in
theorem rdoes_any (v vl : Value) (m : List Mt) (l : List Lb) (w : World) (h : IsMs w v m) (hl : IsLs w vl l) (hml : ∀ x ∈ l, x.2.length ≤ 4000000000) : Calls Try.prog 17 #[v, vl] w fun e w' => e = .returned (.bool (doesM m l)) ∧ ∃ n, w' = w.drewN n := by
  obtain ⟨a, c, rfl⟩ := h.slice
  obtain ⟨al, cl, rfl⟩ := hl.slice
  obtain ⟨-, hb⟩ := h.bound
  replace h := hid h
  replace hl := hid hl
  replace hml := hid hml
  go_enter Try.func17, Try.ntmps17
  go_wp2
  go_loopw [5] (fun iv wr => ∃ j q : Nat, j ≤ m.length ∧ iv = .int .i64 (j : Int) ∧ Hid (∀ i x, i < j → m[i]? = some x → does1 l x = true) ∧ wr = w.drewN q) (fun iv _ => m.length - (intOf iv).toNat)
  case atStart => exact ⟨0, 0, by omega, rfl, (fun i x hi => by omega), rfl⟩
  case round =>
    obtain ⟨j, q, hj, rfl, hp, rfl⟩ := hrel
    by_cases hlt : j < m.length
    · have hlt' : (j : Int) < (m.length : Int) := by omega
      obtain ⟨bm, off, rfl, hc⟩ := h.out.at hlt
      obtain ⟨⟨xn, xo, xv⟩, hx⟩ : ∃ x, m[j]? = some x := ⟨_, List.getElem?_eq_getElem hlt⟩
      obtain ⟨c0, c1, c2⟩ := hc j _ hx
      have hmid := (h.out.mid hx).2
      simp only at c0 c1 c2 hmid
      have hyes : does1 l (xn, xo, xv) = true → Hid (∀ i x, i < j + 1 → m[i]? = some x → does1 l x = true) := fun hd i x hi hx' => by
        by_cases e : i = j
        · subst e
          rw [hx] at hx'
          cases hx'
          exact hd
        · exact hp.out i x (by omega) hx'
      have hno : does1 l (xn, xo, xv) = false → _ := fun hd => does_false (l := l) (List.mem_of_getElem? hx) hd
      have hnew : does1 l (xn, xo, xv) = asks xo (valueL l xn) xv := rfl
      rw [hnew] at hyes hno
      replace hyes := hid hyes
      replace hno := hid hno
      have hv := hid (rvalue_any (.slice al l.length cl) l xn (w.drewN q) (hl.out.below (below_drewN (Below.refl _ _))))
      have hzl : (valueL l xn).length ≤ 4000000000 := value_len hml.out xn
      unfold str opv at *
      clear hp hc hx hnew
      have g0 : (w.drewN q).cell? ⟨bm, off + j * 3, none⟩ = some (.string ⟨xn.toArray⟩) := c0
      have g1 : (w.drewN q).cell? ⟨bm, off + j * 3 + 1, none⟩ = some (.int .u8 (xo.toNat : Int)) := c1
      have g2 : (w.drewN q).cell? ⟨bm, off + j * 3 + 2, none⟩ = some (.string ⟨xv.toArray⟩) := c2
      have hw5 : Hid (∃ q', w.drewN q = w.drewN q') := ⟨q, rfl⟩
      have hw6 : Hid (∀ n, ∃ q', (w.drewN q).drewN n = w.drewN q') := fun n => ⟨_, World.drewN_drewN ..⟩
      clear c0 c1 c2
      generalize w.drewN q = w5 at *
      generalize valueL l xn = z at *
      have hlow := hid (fun h : xo.toNat ≤ 2 => op_cases h)
      by_cases h0 : xo = 0
      · have t0 : ((xo.toNat : Int) == 0) = true := by subst h0; rfl
        have hask : asks xo z xv = (z == xv) := by unfold asks; rw [if_pos h0]
        rw [hask] at hyes hno
        cases hz : (z == xv)
        · have e := hno.out hz
          clear hyes hno hask h0 hlow
          go_wp2_with (go_at_call 35; refine hv.out.mono ?_; rintro e' w' ⟨rfl, hw'⟩; have hw2 := hw'.symm; subst hw2)
          go_ret
          exact ⟨ret_bool e.out, hw5.out⟩
        · have e := hyes.out hz
          clear hyes hno hask h0 hlow
          go_wp2_with (go_at_call 35; refine hv.out.mono ?_; rintro e' w' ⟨rfl, hw'⟩; have hw2 := hw'.symm; subst hw2)
          obtain ⟨q', hq'⟩ := hw5.out
          exact ⟨⟨j + 1, q', by omega, by go_num, e, hq'⟩, by simp [intOf]; omega⟩
      have t0 : ((xo.toNat : Int) == 0) = false := by
        simp only [beq_eq_false_iff_ne, ne_eq]
        exact fun e => h0 (UInt8.toNat_inj.1 (show xo.toNat = 0 by omega))
      by_cases h1 : xo = 1
      · have t1 : ((xo.toNat : Int) == 1) = true := by subst h1; rfl
        have hask : asks xo z xv = (z != xv) := by unfold asks; rw [if_neg h0, if_pos h1]
        rw [hask] at hyes hno
        cases hz : (z == xv)
        · have e := hyes.out (by rw [bne, hz]; rfl)
          clear hyes hno hask h0 h1 hlow
          go_wp2_with (go_at_call 35; refine hv.out.mono ?_; rintro e' w' ⟨rfl, hw'⟩; have hw2 := hw'.symm; subst hw2)
          obtain ⟨q', hq'⟩ := hw5.out
          exact ⟨⟨j + 1, q', by omega, by go_num, e, hq'⟩, by simp [intOf]; omega⟩
        · have e := hno.out (by rw [bne, hz]; rfl)
          clear hyes hno hask h0 h1 hlow
          go_wp2_with (go_at_call 35; refine hv.out.mono ?_; rintro e' w' ⟨rfl, hw'⟩; have hw2 := hw'.symm; subst hw2)
          go_ret
          exact ⟨ret_bool e.out, hw5.out⟩
      have t1 : ((xo.toNat : Int) == 1) = false := by
        simp only [beq_eq_false_iff_ne, ne_eq]
        exact fun e => h1 (UInt8.toNat_inj.1 (show xo.toNat = 1 by omega))
      by_cases h2 : xo = 2
      · have t2 : ((xo.toNat : Int) == 2) = true := by subst h2; rfl
        have hask : asks xo z xv = Lib.hasPrefix z xv := by unfold asks; rw [if_neg h0, if_neg h1, if_pos h2]
        rw [hask, pre_take] at hyes hno
        by_cases hle : xv.length ≤ z.length
        · have d1 : decide ((xv.length : Int) ≤ (z.length : Int)) = true := by simp; omega
          have d1' : decide (xv.length ≤ z.length) = true := by simp; omega
          have hle' : (xv.length : Int) ≤ (z.length : Int) := by omega
          have e1 : (⟨z.toArray⟩ : ByteArray).extract 0 xv.length = ⟨(z.take xv.length).toArray⟩ := by rw [ext_str, List.drop_zero]
          have c0 : (0 : Int) ≤ (xv.length : Int) := by omega
          rw [decide_eq_true hle, Bool.true_and] at hyes hno
          generalize z.take xv.length = zt at *
          cases hz : (zt == xv)
          · have e := hno.out hz
            clear hyes hno hask h0 h1 h2 hlow
            go_wp2_with (go_at_call 35; refine hv.out.mono ?_; rintro e' w' ⟨rfl, hw'⟩; have hw2 := hw'.symm; subst hw2)
            go_ret
            exact ⟨ret_bool e.out, hw5.out⟩
          · have e := hyes.out hz
            clear hyes hno hask h0 h1 h2 hlow
            go_wp2_with (go_at_call 35; refine hv.out.mono ?_; rintro e' w' ⟨rfl, hw'⟩; have hw2 := hw'.symm; subst hw2)
            obtain ⟨q', hq'⟩ := hw5.out
            exact ⟨⟨j + 1, q', by omega, by go_num, e, hq'⟩, by simp [intOf]; omega⟩
        · have d1 : decide ((xv.length : Int) ≤ (z.length : Int)) = false := by simp; omega
          have d1' : decide (xv.length ≤ z.length) = false := by simp; omega
          rw [decide_eq_false hle, Bool.false_and] at hno
          have e := hno.out rfl
          clear hyes hno hask h0 h1 h2 hlow
          go_wp2_with (go_at_call 35; refine hv.out.mono ?_; rintro e' w' ⟨rfl, hw'⟩; have hw2 := hw'.symm; subst hw2)
          go_ret
          exact ⟨ret_bool e.out, hw5.out⟩
      · have t2 : ((xo.toNat : Int) == 2) = false := by
          simp only [beq_eq_false_iff_ne, ne_eq]
          exact fun e => h2 (UInt8.toNat_inj.1 (show xo.toNat = 2 by omega))
        have hask : asks xo z xv = false := by unfold asks; rw [if_neg h0, if_neg h1, if_neg h2]
        have e := hno.out hask
        clear hyes hno hask h0 h1 h2 hlow
        go_wp2_with (go_at_call 35; refine hv.out.mono ?_; rintro e' w' ⟨rfl, hw'⟩; have hw2 := hw'.symm; subst hw2)
        go_ret
        exact ⟨ret_bool e.out, hw5.out⟩
    · have hlt' : ¬ (j : Int) < (m.length : Int) := by omega
      obtain rfl : j = m.length := by omega
      have e : Hid (true = doesM m l) := by
        unfold Hid doesM
        symm
        rw [List.all_eq_true]
        intro x hx
        obtain ⟨i, hi⟩ := List.mem_iff_getElem?.1 hx
        exact hp.out i x (List.getElem?_eq_some_iff.1 hi).1 hi
      clear hp
      go_wp2
      go_ret
      exact ⟨ret_bool e.out, q, rfl⟩
end Go.Proofs.Ythbdghbfhjimkaa
