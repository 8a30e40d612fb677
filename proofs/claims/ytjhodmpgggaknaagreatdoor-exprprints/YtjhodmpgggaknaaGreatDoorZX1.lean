import Derived.Test.YtjhodmpgggaknaaGreatDoorZGJ
import Derived.Test.YtjhodmpgggaknaaGreatDoorZGK
/- Contracts of the document's own Same, Copy, sign, May, Does. -/
namespace Go.Proofs.YtjhodmpgggaknaaGreatDoor.Mat
open Go.RowKit Go.Shelf

set_option maxHeartbeats 1000000 in
theorem sameM_any (va vb : Value) (a b : List Mt) (w : World) (ha : IsMs w va a) (hb : IsMs w vb b) : Calls Tryz.prog 24 #[va, vb] w fun e w' => e = .returned (.bool (a == b)) ∧ ∃ n, w' = w.drewN n := by
  obtain ⟨aa, ca, rfl⟩ := ha.slice
  obtain ⟨ab, cb, rfl⟩ := hb.slice
  have hba := ha.bound
  have hbb := hb.bound
  replace ha := hid ha
  replace hb := hid hb
  by_cases hl : a.length = b.length
  · have hl' : ((a.length : Int) == (b.length : Int)) = true := by simp; omega
    have HL := hid hl
    clear hl
    go_enter Tryz.func24, Tryz.ntmps24
    go_wp2
    go_loopw [5] (fun iv wr => ∃ k q : Nat, k ≤ a.length ∧ iv = .int .i64 (k : Int) ∧ Hid (∀ i : Nat, i < k → a[i]? = b[i]?) ∧ wr = w.drewN q) (fun iv _ => a.length - (intOf iv).toNat)
    case atStart => exact ⟨0, 0, by omega, rfl, (fun i hi => by omega), rfl⟩
    case round =>
      obtain ⟨k, n, hk, rfl, hp, rfl⟩ := hrel
      by_cases hlt : k < a.length
      · have hlt' : (k : Int) < (a.length : Int) := by omega
        have hltb' : k < b.length := by have := HL.out; omega
        have hltb : (k : Int) < (b.length : Int) := by omega
        obtain ⟨b1, o1, rfl, hc1⟩ := ha.out.at hlt
        obtain ⟨b2, o2, rfl, hc2⟩ := hb.out.at hltb'
        obtain ⟨⟨xn, xo, xv⟩, hx⟩ : ∃ x, a[k]? = some x := ⟨_, List.getElem?_eq_getElem hlt⟩
        obtain ⟨⟨yn, yo, yv⟩, hy⟩ : ∃ x, b[k]? = some x := ⟨_, List.getElem?_eq_getElem hltb'⟩
        obtain ⟨c0, c1, c2⟩ := hc1 k _ hx
        obtain ⟨d0, d1, d2⟩ := hc2 k _ hy
        simp only at c0 c1 c2 d0 d1 d2
        unfold str opv at *
        have hyes : xn = yn → xo = yo → xv = yv → Hid (∀ i : Nat, i < k + 1 → a[i]? = b[i]?) := fun e1 eo e2 i hi => by
          by_cases h : i = k
          · subst h; rw [hx, hy, e1, eo, e2]
          · exact hp.out i (by omega)
        have hno : ¬ (xn = yn ∧ xo = yo ∧ xv = yv) → Hid (false = (a == b)) := fun hne => by
          unfold Hid
          symm
          simp only [beq_eq_false_iff_ne, ne_eq]
          rintro rfl
          rw [hx] at hy
          cases hy
          exact hne ⟨rfl, rfl, rfl⟩
        replace hyes := hid hyes
        replace hno := hid hno
        clear hp hc1 hc2 hx hy
        by_cases e1 : xn = yn
        · have e1' : (xn == yn) = true := by simpa using e1
          by_cases eo : xo = yo
          · have eo' : ((xo.toNat : Int) == (yo.toNat : Int)) = true := by subst eo; simp
            by_cases e2 : xv = yv
            · have e2' : (xv == yv) = true := by simpa using e2
              have hp := hyes.out e1 eo e2
              clear e1 eo e2 hyes hno
              go_wp2
              go_quiet (fail)
              go_wp2
              exact ⟨⟨k + 1, _, by omega, by go_num, hp, rfl⟩, by simp [intOf]; omega⟩
            · have e2' : (xv == yv) = false := by simpa using e2
              have e := hno.out (fun h => e2 h.2.2)
              clear e1 eo e2 hyes hno
              go_wp2
              go_quiet (fail)
              go_wp2
              go_ret
              exact ⟨ret_bool e.out, _, World.drewN_drewN ..⟩
          · have eo' : ((xo.toNat : Int) == (yo.toNat : Int)) = false := by
              simp only [beq_eq_false_iff_ne, ne_eq]
              exact fun e => eo (UInt8.toNat_inj.1 (by omega))
            have e := hno.out (fun h => eo h.2.1)
            clear e1 eo hyes hno
            go_wp2
            go_quiet (fail)
            go_wp2
            go_ret
            exact ⟨ret_bool e.out, _, World.drewN_drewN ..⟩
        · have e1' : (xn == yn) = false := by simpa using e1
          have e := hno.out (fun h => e1 h.1)
          clear e1 hyes hno
          go_wp2
          go_quiet (fail)
          go_wp2
          go_ret
          exact ⟨ret_bool e.out, _, World.drewN_drewN ..⟩
      · have hlt' : ¬ (k : Int) < (a.length : Int) := by omega
        obtain rfl : k = a.length := by omega
        have e : Hid (true = (a == b)) := by
          unfold Hid
          symm
          rw [beq_iff_eq]
          refine List.ext_getElem? fun i => ?_
          by_cases hi : i < a.length
          · exact hp.out i hi
          · rw [List.getElem?_eq_none (by omega), List.getElem?_eq_none (by have := HL.out; omega)]
        clear hp
        go_wp2
        go_ret
        exact ⟨ret_bool e.out, n, rfl⟩
  · have hl' : ((a.length : Int) == (b.length : Int)) = false := by simp; omega
    have e : Hid (false = (a == b)) := by
      unfold Hid
      symm
      simp only [beq_eq_false_iff_ne, ne_eq]
      intro h
      exact hl (by rw [h])
    clear ha hb hl
    go_enter Tryz.func24, Tryz.ntmps24
    go_wp2
    go_ret
    exact ⟨ret_bool e.out, 0, rfl⟩
set_option maxHeartbeats 1000000 in
theorem copyM_any (v : Value) (l : List Mt) (w : World) (h : IsMs w v l) (hl : l.length ≤ 3000000) : Calls Tryz.prog 25 #[v] w fun e w' => ∃ a c, e = .returned (.slice a l.length c) ∧ OwnM w.heap.size w' (.slice a l.length c) l ∧ Below w.heap.size w w' := by
  obtain ⟨a, c, rfl⟩ := h.slice
  obtain ⟨a', c', w', hrun, ho, hg, _⟩ := appM_run (ownM_nil w.heap.size w) h (by simp; omega) (Nat.le_refl _)
  have hb := hid (appM_low (ownM_nil w.heap.size w) (Nat.le_refl _) hg)
  simp only [List.length_nil, Nat.zero_add, List.nil_append] at hrun ho
  replace ho := hid ho
  clear h hg
  go_enter Tryz.func25, Tryz.ntmps25
  go_wp2_with (at_builtin; refine wpList_append_run _ rfl _ _ 29 rfl _ _ _ _ rfl rfl hrun ?_)
  go_ret
  exact ⟨_, _, rfl, ho.out, hb.out⟩
set_option maxHeartbeats 400000 in
theorem rsign_any (o : UInt8) (w : World) : Calls Tryz.prog 47 #[.int .u8 (o.toNat : Int)] w fun e w' => e = .returned (str (opS o)) ∧ w' = w := by
  have hl : Hid (opS o = if o = 1 then [33, 61] else if o = 2 then [94, 61] else [61]) := rfl
  generalize opS o = z at *
  by_cases h1 : o = 1
  · subst h1
    have e := hl.out
    rw [if_pos rfl] at e
    subst e
    unfold str
    go_enter Tryz.func47, Tryz.ntmps47
    go_wp2
    go_ret
    exact ⟨rfl, rfl⟩
  · rw [if_neg h1] at hl
    by_cases h2 : o = 2
    · subst h2
      have e := hl.out
      rw [if_pos rfl] at e
      subst e
      unfold str
      go_enter Tryz.func47, Tryz.ntmps47
      go_wp2
      go_ret
      exact ⟨rfl, rfl⟩
    · rw [if_neg h2] at hl
      have e := hl.out
      subst e
      have t1 : ((o.toNat : Int) == 1) = false := by
        simp only [beq_eq_false_iff_ne, ne_eq]
        exact fun e => h1 (UInt8.toNat_inj.1 (show o.toNat = 1 by omega))
      have t2 : ((o.toNat : Int) == 2) = false := by
        simp only [beq_eq_false_iff_ne, ne_eq]
        exact fun e => h2 (UInt8.toNat_inj.1 (show o.toNat = 2 by omega))
      clear h1 h2 hl
      unfold str
      go_enter Tryz.func47, Tryz.ntmps47
      go_wp2
      go_ret
      exact ⟨rfl, rfl⟩
theorem rmay_no {m : List Mt} {x : Mt} (h : x ∈ m) (hx : mayM1 x = false) : Hid (false = mayM m) := by
  unfold Hid
  symm
  cases hm : mayM m
  · rfl
  · rw [(mayM_iff.1 hm).2 x h] at hx
    cases hx
set_option maxRecDepth 100000 in
set_option maxHeartbeats 4000000 in
theorem rmay_any (v : Value) (m : List Mt) (w : World) (h : IsMs w v m) : Calls Tryz.prog 109 #[v] w fun e w' => e = .returned (.bool (mayM m)) ∧ ∃ n, w' = w.drewN n := by
  obtain ⟨a, c, rfl⟩ := h.slice
  obtain ⟨-, hb⟩ := h.bound
  replace h := hid h
  go_enter Tryz.func109, Tryz.ntmps109
  go_wp2
  go_loopw [3] (fun iv wr => ∃ j q : Nat, j ≤ m.length ∧ iv = .int .i64 (j : Int) ∧ Hid (∀ i x, i < j → m[i]? = some x → mayM1 x = true) ∧ wr = w.drewN q) (fun iv _ => m.length - (intOf iv).toNat)
  case atStart => exact ⟨0, 0, by omega, rfl, (fun i x hi => by omega), rfl⟩
  case round =>
    obtain ⟨j, q, hj, rfl, hp, rfl⟩ := hrel
    by_cases hlt : j < m.length
    · have hlt' : (j : Int) < (m.length : Int) := by omega
      obtain ⟨bm, off, rfl, hc⟩ := h.out.at hlt
      obtain ⟨⟨xn, xo, xv⟩, hx⟩ : ∃ x, m[j]? = some x := ⟨_, List.getElem?_eq_getElem hlt⟩
      obtain ⟨c0, c1, c2⟩ := hc j _ hx
      obtain ⟨m0, m1⟩ := h.out.mid hx
      simp only at c0 c1 c2 m0 m1
      have hyes : mayM1 (xn, xo, xv) = true → Hid (∀ i x, i < j + 1 → m[i]? = some x → mayM1 x = true) := fun hd i x hi hx' => by
        by_cases e : i = j
        · subst e
          rw [hx] at hx'
          cases hx'
          exact hd
        · exact hp.out i x (by omega) hx'
      have hno : mayM1 (xn, xo, xv) = false → _ := fun hd => rmay_no (List.mem_of_getElem? hx) hd
      have hnew : mayM1 (xn, xo, xv) = (decide (xo.toNat ≤ 2) && mayN xn && (decide (xv.length ≤ 32) && xv.all vlc)) := rfl
      rw [hnew] at hyes hno
      replace hyes := hid hyes
      replace hno := hid hno
      have hn := hid (fun w => rmayName_any xn m0 w)
      have hv := hid (fun w => plain_any xv m1 w)
      unfold str opv at *
      clear hp hc hx hnew
      have g0 : (w.drewN q).cell? ⟨bm, off + j * 3, none⟩ = some (.string ⟨xn.toArray⟩) := c0
      have g1 : (w.drewN q).cell? ⟨bm, off + j * 3 + 1, none⟩ = some (.int .u8 (xo.toNat : Int)) := c1
      have g2 : (w.drewN q).cell? ⟨bm, off + j * 3 + 2, none⟩ = some (.string ⟨xv.toArray⟩) := c2
      have hw5 : Hid (∃ q', w.drewN q = w.drewN q') := ⟨q, rfl⟩
      clear c0 c1 c2
      generalize w.drewN q = w5 at *
      by_cases ho : xo.toNat ≤ 2
      · have d1 : decide (2 < (xo.toNat : Int)) = false := by simp; omega
        have d1' : decide (2 < xo.toNat) = false := by simp; omega
        rw [decide_eq_true ho, Bool.true_and] at hyes hno
        cases en : mayN xn
        · rw [en] at hn hno
          have e := hno.out rfl
          clear hyes hno ho en hv
          go_wp2_with (first | (go_at_call 106; refine (hn.out _).mono ?_; rintro e' w' ⟨rfl, hw'⟩; have hw2 := hw'.symm; subst hw2) | (go_at_call 59; refine (hv.out _).mono ?_; rintro e' w' ⟨rfl, hw'⟩; have hw2 := hw'.symm; subst hw2))
          go_ret
          exact ⟨ret_bool e.out, hw5.out⟩
        · rw [en] at hn
          rw [en, Bool.true_and] at hyes hno
          by_cases hl : xv.length ≤ 32
          · have d2 : decide (32 < (xv.length : Int)) = false := by simp; omega
            have d2' : decide (32 < xv.length) = false := by simp; omega
            rw [decide_eq_true hl, Bool.true_and] at hyes hno
            cases ev : xv.all vlc
            · rw [ev] at hv hno
              have e := hno.out rfl
              clear hyes hno ho en hl ev
              go_wp2_with (first | (go_at_call 106; refine (hn.out _).mono ?_; rintro e' w' ⟨rfl, hw'⟩; have hw2 := hw'.symm; subst hw2) | (go_at_call 59; refine (hv.out _).mono ?_; rintro e' w' ⟨rfl, hw'⟩; have hw2 := hw'.symm; subst hw2))
              go_ret
              exact ⟨ret_bool e.out, hw5.out⟩
            · rw [ev] at hv hyes
              have e := hyes.out rfl
              clear hyes hno ho en hl ev
              go_wp2_with (first | (go_at_call 106; refine (hn.out _).mono ?_; rintro e' w' ⟨rfl, hw'⟩; have hw2 := hw'.symm; subst hw2) | (go_at_call 59; refine (hv.out _).mono ?_; rintro e' w' ⟨rfl, hw'⟩; have hw2 := hw'.symm; subst hw2))
              obtain ⟨q', hq'⟩ := hw5.out
              exact ⟨⟨j + 1, q', by omega, by go_num, e, hq'⟩, by simp [intOf]; omega⟩
          · have d2 : decide (32 < (xv.length : Int)) = true := by simp; omega
            have d2' : decide (32 < xv.length) = true := by simp; omega
            rw [decide_eq_false hl, Bool.false_and] at hno
            have e := hno.out rfl
            clear hyes hno ho en hl
            go_wp2_with (first | (go_at_call 106; refine (hn.out _).mono ?_; rintro e' w' ⟨rfl, hw'⟩; have hw2 := hw'.symm; subst hw2) | (go_at_call 59; refine (hv.out _).mono ?_; rintro e' w' ⟨rfl, hw'⟩; have hw2 := hw'.symm; subst hw2))
            go_ret
            exact ⟨ret_bool e.out, hw5.out⟩
      · have d1 : decide (2 < (xo.toNat : Int)) = true := by simp; omega
        have d1' : decide (2 < xo.toNat) = true := by simp; omega
        rw [decide_eq_false ho] at hno
        have e := hno.out rfl
        clear hyes hno ho
        go_wp2_with (first | (go_at_call 106; refine (hn.out _).mono ?_; rintro e' w' ⟨rfl, hw'⟩; have hw2 := hw'.symm; subst hw2) | (go_at_call 59; refine (hv.out _).mono ?_; rintro e' w' ⟨rfl, hw'⟩; have hw2 := hw'.symm; subst hw2))
        go_ret
        exact ⟨ret_bool e.out, hw5.out⟩
    · have hlt' : ¬ (j : Int) < (m.length : Int) := by omega
      obtain rfl : j = m.length := by omega
      have e : Hid (decide (m.length ≤ 6) = mayM m) := by
        unfold Hid mayM
        rw [List.all_eq_true.2 fun x hx => ?_, Bool.and_true]
        obtain ⟨i, hi⟩ := List.mem_iff_getElem?.1 hx
        exact hp.out i x (List.getElem?_eq_some_iff.1 hi).1 hi
      clear hp
      go_wp2
      go_ret
      exact ⟨ret_bool ((decide_eq_decide.2 (by omega)).trans e.out), q, rfl⟩
end Go.Proofs.YtjhodmpgggaknaaGreatDoor.Mat
