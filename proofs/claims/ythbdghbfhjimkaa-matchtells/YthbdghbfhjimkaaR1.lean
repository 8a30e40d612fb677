/- Contracts of the document's own MayName, MayValue, Value, Same, Copy. -/
import Derived.Test.YthbdghbfhjimkaaW3
namespace Go.Proofs.Ythbdghbfhjimkaa
open Go.RowKit Go.Shelf

theorem vlc_no {c : UInt8} (h : (c.toNat : Int) < 32 ∨ 126 < (c.toNat : Int)) : vlc c = false := by
  unfold vlc
  simp
  omega
theorem vlc_ok {c : UInt8} (h : ¬ (c.toNat : Int) < 32 ∧ ¬ 126 < (c.toNat : Int)) : vlc c = true := by
  unfold vlc
  simp
  omega
theorem nmc_no {c : UInt8} (h : ¬ (97 ≤ (c.toNat : Int) ∧ (c.toNat : Int) ≤ 122) ∧ ¬ (48 ≤ (c.toNat : Int) ∧ (c.toNat : Int) ≤ 57) ∧ (c.toNat : Int) ≠ 95) : nmc c = false := by
  unfold nmc low
  simp
  omega
theorem nmc_ok {c : UInt8} (h : (97 ≤ (c.toNat : Int) ∧ (c.toNat : Int) ≤ 122) ∨ (48 ≤ (c.toNat : Int) ∧ (c.toNat : Int) ≤ 57) ∨ (c.toNat : Int) = 95) : nmc c = true := by
  unfold nmc low
  simp
  omega
set_option maxHeartbeats 1000000 in
theorem plain_any (s : Tx) (hs : s.length ≤ 9223372036854775807) (w : World) : Calls Try.prog 27 #[str s] w fun e w' => e = .returned (.bool (s.all vlc)) ∧ w' = w := by
  unfold str
  go_enter Try.func27, Try.ntmps27
  go_wp2
  go_loop [3] (fun iv => ∃ j : Nat, j ≤ s.length ∧ iv = .int .i64 j ∧ Hid (∀ i, i < j → vlc (s.getD i 0) = true)) (fun iv => s.length - (intOf iv).toNat)
  case atStart => exact ⟨0, by omega, rfl, fun i hi => by omega⟩
  case round =>
    obtain ⟨j, hj, rfl, hp⟩ := hrel
    by_cases hlt : j < s.length
    · have hlt' : (j : Int) < (s.length : Int) := by omega
      have hget := get_at hlt
      obtain ⟨c, hcd⟩ : ∃ c, c = s.getD j 0 := ⟨_, rfl⟩
      rw [← hcd] at hget
      have hcm : c ∈ s := by rw [hcd]; simp [List.getD, List.getElem?_eq_getElem hlt]
      have hbad : vlc c = false → Hid (false = s.all vlc) := fun hf => by
        unfold Hid
        rw [List.all_eq_false.2 ⟨c, hcm, by rw [hf]; simp⟩]
      have hgood : vlc c = true → Hid (∀ i, i < j + 1 → vlc (s.getD i 0) = true) := fun hf i hi => by
        by_cases h : i = j
        · subst h; rw [← hcd]; exact hf
        · exact hp.out i (by omega)
      replace hbad := hid hbad
      replace hgood := hid hgood
      clear hp hcd hcm
      go_wp2
      all_goals first
        | (have e := hbad.out (vlc_no (by omega))
           go_ret
           exact ⟨ret_bool e.out, rfl⟩)
        | (have e := hgood.out (vlc_ok (by omega))
           exact ⟨⟨j + 1, by omega, by go_num, e⟩, by simp [intOf]; omega⟩)
    · have hlt' : ¬ (j : Int) < (s.length : Int) := by omega
      obtain rfl : j = s.length := by omega
      have e : Hid (true = s.all vlc) := by
        unfold Hid
        symm
        rw [List.all_eq_true]
        intro c hc
        obtain ⟨i, hi⟩ := List.mem_iff_getElem?.1 hc
        have := hp.out i (List.getElem?_eq_some_iff.1 hi).1
        simpa [List.getD, hi] using this
      clear hp
      go_wp2
      go_ret
      exact ⟨ret_bool e.out, rfl⟩
theorem mayN_false {s : Tx} (h : mayB 16 nmc s = false ∨ low (s.headD 0) = false) : Hid (false = mayN s) := by
  unfold Hid mayN
  rcases h with h | h
  · rw [h]; rfl
  · rw [h]; simp
set_option maxHeartbeats 1000000 in
theorem rmayName_any (s : Tx) (hs : s.length ≤ 9223372036854775807) (w : World) : Calls Try.prog 26 #[str s] w fun e w' => e = .returned (.bool (mayN s)) ∧ w' = w := by
  unfold str
  by_cases h0 : s.length = 0
  · obtain rfl := List.eq_nil_of_length_eq_zero h0
    go_enter Try.func26, Try.ntmps26
    go_wp2
    go_ret
    exact ⟨rfl, rfl⟩
  have d1 : decide ((s.length : Int) < 1) = false := by simp; omega
  by_cases h16 : 16 < s.length
  · have d2 : decide (16 < (s.length : Int)) = true := by simp; omega
    have d2' : decide (16 < s.length) = true := by simp; omega
    have e : Hid (false = mayN s) := mayN_false (.inl (by unfold mayB; rw [decide_eq_false (by omega : ¬ s.length ≤ 16)]; simp))
    clear h0
    go_enter Try.func26, Try.ntmps26
    go_wp2
    go_ret
    exact ⟨ret_bool e.out, rfl⟩
  have d2 : decide (16 < (s.length : Int)) = false := by simp; omega
  have d2' : decide (16 < s.length) = false := by simp; omega
  have hget := get_at (s := s) (j := 0) (by omega)
  obtain ⟨c, hcd⟩ : ∃ c, c = s.getD 0 0 := ⟨_, rfl⟩
  rw [← hcd] at hget
  have hh : s.headD 0 = c := by
    rw [hcd]
    cases s <;> simp
  have hl0 : (0 : Int) < (s.length : Int) := by omega
  have hl0' : 0 < s.length := by omega
  cases hlo : low c
  · have e : Hid (false = mayN s) := mayN_false (.inr (by rw [hh]; exact hlo))
    have hcc : c.toNat < 97 ∨ 122 < c.toNat := by
      unfold low at hlo
      simp at hlo
      omega
    clear hh hlo hcd
    rcases hcc with h | h
    · have h' : decide ((c.toNat : Int) < 97) = true := by simp; omega
      clear h
      go_enter Try.func26, Try.ntmps26
      go_wp2
      go_ret
      exact ⟨ret_bool e.out, rfl⟩
    · have h' : decide (122 < (c.toNat : Int)) = true := by simp; omega
      have h'' : decide ((c.toNat : Int) < 97) = false := by simp; omega
      clear h
      go_enter Try.func26, Try.ntmps26
      go_wp2
      go_ret
      exact ⟨ret_bool e.out, rfl⟩
  have d3 : decide ((c.toNat : Int) < 97) = false := by
    unfold low at hlo
    simp at hlo ⊢
    omega
  have d4 : decide (122 < (c.toNat : Int)) = false := by
    unfold low at hlo
    simp at hlo ⊢
    omega
  have hm : Hid (mayB 16 nmc s = mayN s) := by unfold Hid mayN; rw [hh, hlo]; simp
  have hne : Hid (s ≠ [] ∧ s.length ≤ 16) := ⟨by rintro rfl; simp at h0, by omega⟩
  clear hlo hh hcd
  go_enter Try.func26, Try.ntmps26
  go_wp2
  go_loop [3] (fun iv => ∃ j : Nat, j ≤ s.length ∧ iv = .int .i64 j ∧ Hid (∀ i, i < j → nmc (s.getD i 0) = true)) (fun iv => s.length - (intOf iv).toNat)
  case atStart => exact ⟨0, by omega, rfl, fun i hi => by omega⟩
  case round =>
    obtain ⟨j, hj, rfl, hp⟩ := hrel
    by_cases hlt : j < s.length
    · have hlt' : (j : Int) < (s.length : Int) := by omega
      clear hget
      have hget := get_at hlt
      obtain ⟨x, hcd⟩ : ∃ c, c = s.getD j 0 := ⟨_, rfl⟩
      rw [← hcd] at hget
      have hcm : x ∈ s := by rw [hcd]; simp [List.getD, List.getElem?_eq_getElem hlt]
      have hbad : nmc x = false → Hid (false = mayN s) := fun hf => by
        unfold Hid
        rw [← hm.out]
        unfold mayB
        rw [List.all_eq_false.2 ⟨x, hcm, by rw [hf]; simp⟩]
        simp
      have hgood : nmc x = true → Hid (∀ i, i < j + 1 → nmc (s.getD i 0) = true) := fun hf i hi => by
        by_cases h : i = j
        · subst h; rw [← hcd]; exact hf
        · exact hp.out i (by omega)
      replace hbad := hid hbad
      replace hgood := hid hgood
      clear hp hcd hcm
      go_wp2
      all_goals (try simp only [Bool.not_eq_true', Bool.not_eq_false', decide_eq_false_iff_not, decide_eq_true_iff, beq_iff_eq, beq_eq_false_iff_ne, ne_eq] at *)
      all_goals first
        | (have e := hbad.out (nmc_no (by omega))
           go_ret
           exact ⟨ret_bool e.out, rfl⟩)
        | (have e := hgood.out (nmc_ok (by omega))
           exact ⟨⟨j + 1, by omega, by go_num, e⟩, by simp [intOf]; omega⟩)
    · have hlt' : ¬ (j : Int) < (s.length : Int) := by omega
      obtain rfl : j = s.length := by omega
      have e : Hid (true = mayN s) := by
        unfold Hid
        rw [← hm.out]
        symm
        rw [mayB_iff]
        refine ⟨hne.out.1, hne.out.2, fun c hc => ?_⟩
        obtain ⟨i, hi⟩ := List.mem_iff_getElem?.1 hc
        have := hp.out i (List.getElem?_eq_some_iff.1 hi).1
        simpa [List.getD, hi] using this
      clear hp
      go_wp2
      go_ret
      exact ⟨ret_bool e.out, rfl⟩
set_option maxHeartbeats 1000000 in
theorem rvalue_any (v : Value) (l : List Lb) (n : Tx) (w : World) (h : IsLs w v l) : Calls Try.prog 35 #[v, str n] w fun e w' => e = .returned (str (valueL l n)) ∧ w' = w := by
  obtain ⟨a, c, rfl⟩ := h.slice
  have hb := h.bound
  replace h := hid h
  unfold str
  go_enter Try.func35, Try.ntmps35
  go_wp2
  go_loop [5] (fun iv => ∃ j : Nat, j ≤ l.length ∧ iv = .int .i64 j ∧ Hid (valueL (l.drop j) n = valueL l n)) (fun iv => l.length - (intOf iv).toNat)
  case atStart => exact ⟨0, by omega, rfl, rfl⟩
  case round =>
    obtain ⟨j, hj, rfl, hp⟩ := hrel
    by_cases hlt : j < l.length
    · have hlt' : (j : Int) < (l.length : Int) := by omega
      obtain ⟨b, off, rfl, hc⟩ := h.out.at hlt
      obtain ⟨⟨xn, xv⟩, hx⟩ : ∃ x, l[j]? = some x := ⟨_, List.getElem?_eq_getElem hlt⟩
      obtain ⟨c0, c1⟩ := hc j _ hx
      have hs := value_step n hx
      simp only at c0 c1 hs
      unfold str at *
      by_cases he : xn = n
      · have he' : (xn == n) = true := by simpa using he
        have e : Hid (xv = valueL l n) := by rw [← hp.out, hs, if_pos he]; rfl
        clear he hs hp hc hx
        go_wp2
        go_ret
        exact ⟨ret_str e.out, rfl⟩
      · have he' : (xn == n) = false := by simpa using he
        have hp' : Hid (valueL (l.drop (j + 1)) n = valueL l n) := by rw [← hp.out, hs, if_neg he]; rfl
        clear he hs hp hc hx
        go_wp2
        exact ⟨⟨j + 1, by omega, by go_num, hp'⟩, by simp [intOf]; omega⟩
    · have hlt' : ¬ (j : Int) < (l.length : Int) := by omega
      obtain rfl : j = l.length := by omega
      have e : Hid ([] = valueL l n) := by rw [← hp.out, List.drop_length]; rfl
      clear hp
      go_wp2
      go_ret
      exact ⟨ret_str e.out, rfl⟩
set_option maxHeartbeats 1000000 in
theorem same_any (va vb : Value) (a b : List Lb) (w : World) (ha : IsLs w va a) (hb : IsLs w vb b) : Calls Try.prog 19 #[va, vb] w fun e w' => e = .returned (.bool (a == b)) ∧ ∃ n, w' = w.drewN n := by
  obtain ⟨aa, ca, rfl⟩ := ha.slice
  obtain ⟨ab, cb, rfl⟩ := hb.slice
  have hba := ha.bound
  have hbb := hb.bound
  replace ha := hid ha
  replace hb := hid hb
  by_cases hl : a.length = b.length
  · have hl' : ((a.length : Int) == (b.length : Int)) = true := by simp; omega
    have HL := hid hl
    clear hl
    go_enter Try.func19, Try.ntmps19
    go_wp2
    go_loopw [5] (fun iv wr => ∃ k q : Nat, k ≤ a.length ∧ iv = .int .i64 (k : Int) ∧ Hid (∀ i : Nat, i < k → a[i]? = b[i]?) ∧ wr = w.drewN q) (fun iv _ => a.length - (intOf iv).toNat)
    case atStart => exact ⟨0, 0, by omega, rfl, (fun i hi => by omega), rfl⟩
    case round =>
      obtain ⟨k, n, hk, rfl, hp, rfl⟩ := hrel
      by_cases hlt : k < a.length
      · have hlt' : (k : Int) < (a.length : Int) := by omega
        have hltb' : k < b.length := by have := HL.out; omega
        have hltb : (k : Int) < (b.length : Int) := by omega
        obtain ⟨b1, o1, rfl, hc1⟩ := ha.out.at hlt
        obtain ⟨b2, o2, rfl, hc2⟩ := hb.out.at hltb'
        obtain ⟨⟨xn, xv⟩, hx⟩ : ∃ x, a[k]? = some x := ⟨_, List.getElem?_eq_getElem hlt⟩
        obtain ⟨⟨yn, yv⟩, hy⟩ : ∃ x, b[k]? = some x := ⟨_, List.getElem?_eq_getElem hltb'⟩
        obtain ⟨c0, c1⟩ := hc1 k _ hx
        obtain ⟨d0, d1⟩ := hc2 k _ hy
        simp only at c0 c1 d0 d1
        unfold str at *
        have hyes : xn = yn → xv = yv → Hid (∀ i : Nat, i < k + 1 → a[i]? = b[i]?) := fun e1 e2 i hi => by
          by_cases h : i = k
          · subst h; rw [hx, hy, e1, e2]
          · exact hp.out i (by omega)
        have hno : ¬ (xn = yn ∧ xv = yv) → Hid (false = (a == b)) := fun hne => by
          unfold Hid
          symm
          simp only [beq_eq_false_iff_ne, ne_eq]
          rintro rfl
          rw [hx] at hy
          cases hy
          exact hne ⟨rfl, rfl⟩
        replace hyes := hid hyes
        replace hno := hid hno
        clear hp hc1 hc2 hx hy
        by_cases e1 : xn = yn
        · have e1' : (xn == yn) = true := by simpa using e1
          by_cases e2 : xv = yv
          · have e2' : (xv == yv) = true := by simpa using e2
            have hp := hyes.out e1 e2
            clear e1 e2 hyes hno
            go_wp2
            go_quiet (fail)
            go_wp2
            exact ⟨⟨k + 1, _, by omega, by go_num, hp, rfl⟩, by simp [intOf]; omega⟩
          · have e2' : (xv == yv) = false := by simpa using e2
            have e := hno.out (fun h => e2 h.2)
            clear e1 e2 hyes hno
            go_wp2
            go_quiet (fail)
            go_wp2
            go_ret
            exact ⟨ret_bool e.out, _, World.drewN_drewN ..⟩
        · have e1' : (xn == yn) = false := by simpa using e1
          have e := hno.out (fun h => e1 h.1)
          clear e1 hyes hno
          go_wp2
          go_quiet (fail)
          go_wp2
          go_ret
          exact ⟨ret_bool e.out, _, World.drewN_drewN ..⟩
      · have hlt' : ¬ (k : Int) < (a.length : Int) := by omega
        obtain rfl : k = a.length := by omega
        have e : Hid (true = (a == b)) := by
          unfold Hid
          symm
          rw [beq_iff_eq]
          refine List.ext_getElem? fun i => ?_
          by_cases hi : i < a.length
          · exact hp.out i hi
          · rw [List.getElem?_eq_none (by omega), List.getElem?_eq_none (by have := HL.out; omega)]
        clear hp
        go_wp2
        go_ret
        exact ⟨ret_bool e.out, n, rfl⟩
  · have hl' : ((a.length : Int) == (b.length : Int)) = false := by simp; omega
    have e : Hid (false = (a == b)) := by
      unfold Hid
      symm
      simp only [beq_eq_false_iff_ne, ne_eq]
      intro h
      exact hl (by rw [h])
    clear ha hb hl
    go_enter Try.func19, Try.ntmps19
    go_wp2
    go_ret
    exact ⟨ret_bool e.out, 0, rfl⟩
set_option maxHeartbeats 1000000 in
theorem copy_any (v : Value) (l : List Lb) (w : World) (h : IsLs w v l) (hl : l.length ≤ 4000000) : Calls Try.prog 11 #[v] w fun e w' => ∃ a c, e = .returned (.slice a l.length c) ∧ OwnL w.heap.size w' (.slice a l.length c) l ∧ Below w.heap.size w w' := by
  obtain ⟨a, c, rfl⟩ := h.slice
  obtain ⟨a', c', w', hrun, ho, hg, _⟩ := appL_run (ownL_nil w.heap.size w) h (by simp; omega) (Nat.le_refl _)
  have hb := hid (appL_low (ownL_nil w.heap.size w) (Nat.le_refl _) hg)
  simp only [List.length_nil, Nat.zero_add, List.nil_append] at hrun ho
  replace ho := hid ho
  clear h hg
  go_enter Try.func11, Try.ntmps11
  go_wp2_with (at_builtin; refine wpList_append_run _ rfl _ _ 23 rfl _ _ _ _ rfl rfl hrun ?_)
  go_ret
  exact ⟨_, _, rfl, ho.out, hb.out⟩
end Go.Proofs.Ythbdghbfhjimkaa
