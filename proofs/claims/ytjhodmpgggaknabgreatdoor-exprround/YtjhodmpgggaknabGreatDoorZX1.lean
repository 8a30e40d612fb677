/- Contracts of the document's own Same, Copy, sign, May, Does. -/
import Derived.Test.YtjhodmpgggaknabGreatDoorZGJ
import Derived.Test.YtjhodmpgggaknabGreatDoorZGK
namespace Go.Proofs.YtjhodmpgggaknabGreatDoor.Mat
open Go.RowKit Go.Shelf

set_option maxHeartbeats 1000000 in
theorem sameM_any (va vb : Value) (a b : List Mt) (w : World) (ha : IsMs w va a) (hb : IsMs w vb b) : Calls Tryz.prog 17 #[va, vb] w fun e w' => e = .returned (.bool (a == b)) ∧ ∃ n, w' = w.drewN n := by
  obtain ⟨aa, ca, rfl⟩ := ha.slice
  obtain ⟨ab, cb, rfl⟩ := hb.slice
  have hba := ha.bound
  have hbb := hb.bound
  replace ha := hid ha
  replace hb := hid hb
  by_cases hl : a.length = b.length
  · have hl' : ((a.length : Int) == (b.length : Int)) = true := by simp; omega
    have HL := hid hl
    clear hl
    go_enter Tryz.func17, Tryz.ntmps17
    go_wp2
    go_loopw [5] (fun iv wr => ∃ k q : Nat, k ≤ a.length ∧ iv = .int .i64 (k : Int) ∧ Hid (∀ i : Nat, i < k → a[i]? = b[i]?) ∧ wr = w.drewN q) (fun iv _ => a.length - (intOf iv).toNat)
    case atStart => exact ⟨0, 0, by omega, rfl, (fun i hi => by omega), rfl⟩
    case round =>
      obtain ⟨k, n, hk, rfl, hp, rfl⟩ := hrel
      by_cases hlt : k < a.length
      · have hlt' : (k : Int) < (a.length : Int) := by omega
        have hltb' : k < b.length := by have := HL.out; omega
        have hltb : (k : Int) < (b.length : Int) := by omega
        obtain ⟨b1, o1, rfl, hc1⟩ := ha.out.at hlt
        obtain ⟨b2, o2, rfl, hc2⟩ := hb.out.at hltb'
        obtain ⟨⟨xn, xo, xv⟩, hx⟩ : ∃ x, a[k]? = some x := ⟨_, List.getElem?_eq_getElem hlt⟩
        obtain ⟨⟨yn, yo, yv⟩, hy⟩ : ∃ x, b[k]? = some x := ⟨_, List.getElem?_eq_getElem hltb'⟩
        obtain ⟨c0, c1, c2⟩ := hc1 k _ hx
        obtain ⟨d0, d1, d2⟩ := hc2 k _ hy
        simp only at c0 c1 c2 d0 d1 d2
        unfold str opv at *
        have hyes : xn = yn → xo = yo → xv = yv → Hid (∀ i : Nat, i < k + 1 → a[i]? = b[i]?) := fun e1 eo e2 i hi => by
          by_cases h : i = k
          · subst h; rw [hx, hy, e1, eo, e2]
          · exact hp.out i (by omega)
        have hno : ¬ (xn = yn ∧ xo = yo ∧ xv = yv) → Hid (false = (a == b)) := fun hne => by
          unfold Hid
          symm
          simp only [beq_eq_false_iff_ne, ne_eq]
          rintro rfl
          rw [hx] at hy
          cases hy
          exact hne ⟨rfl, rfl, rfl⟩
        replace hyes := hid hyes
        replace hno := hid hno
        clear hp hc1 hc2 hx hy
        by_cases e1 : xn = yn
        · have e1' : (xn == yn) = true := by simpa using e1
          by_cases eo : xo = yo
          · have eo' : ((xo.toNat : Int) == (yo.toNat : Int)) = true := by subst eo; simp
            by_cases e2 : xv = yv
            · have e2' : (xv == yv) = true := by simpa using e2
              have hp := hyes.out e1 eo e2
              clear e1 eo e2 hyes hno
              go_wp2
              go_quiet (fail)
              go_wp2
              exact ⟨⟨k + 1, _, by omega, by go_num, hp, rfl⟩, by simp [intOf]; omega⟩
            · have e2' : (xv == yv) = false := by simpa using e2
              have e := hno.out (fun h => e2 h.2.2)
              clear e1 eo e2 hyes hno
              go_wp2
              go_quiet (fail)
              go_wp2
              go_ret
              exact ⟨ret_bool e.out, _, World.drewN_drewN ..⟩
          · have eo' : ((xo.toNat : Int) == (yo.toNat : Int)) = false := by
              simp only [beq_eq_false_iff_ne, ne_eq]
              exact fun e => eo (UInt8.toNat_inj.1 (by omega))
            have e := hno.out (fun h => eo h.2.1)
            clear e1 eo hyes hno
            go_wp2
            go_quiet (fail)
            go_wp2
            go_ret
            exact ⟨ret_bool e.out, _, World.drewN_drewN ..⟩
        · have e1' : (xn == yn) = false := by simpa using e1
          have e := hno.out (fun h => e1 h.1)
          clear e1 hyes hno
          go_wp2
          go_quiet (fail)
          go_wp2
          go_ret
          exact ⟨ret_bool e.out, _, World.drewN_drewN ..⟩
      · have hlt' : ¬ (k : Int) < (a.length : Int) := by omega
        obtain rfl : k = a.length := by omega
        have e : Hid (true = (a == b)) := by
          unfold Hid
          symm
          rw [beq_iff_eq]
          refine List.ext_getElem? fun i => ?_
          by_cases hi : i < a.length
          · exact hp.out i hi
          · rw [List.getElem?_eq_none (by omega), List.getElem?_eq_none (by have := HL.out; omega)]
        clear hp
        go_wp2
        go_ret
        exact ⟨ret_bool e.out, n, rfl⟩
  · have hl' : ((a.length : Int) == (b.length : Int)) = false := by simp; omega
    have e : Hid (false = (a == b)) := by
      unfold Hid
      symm
      simp only [beq_eq_false_iff_ne, ne_eq]
      intro h
      exact hl (by rw [h])
    clear ha hb hl
    go_enter Tryz.func17, Tryz.ntmps17
    go_wp2
    go_ret
    exact ⟨ret_bool e.out, 0, rfl⟩
theorem rmay_no {m : List Mt} {x : Mt} (h : x ∈ m) (hx : mayM1 x = false) : Hid (false = mayM m) := by
  unfold Hid
  symm
  cases hm : mayM m
  · rfl
  · rw [(mayM_iff.1 hm).2 x h] at hx
    cases hx
end Go.Proofs.YtjhodmpgggaknabGreatDoor.Mat
