/- Contract of the document's Less. -/
import Derived.Test.YthcbekccnmdgaaaR1
namespace Go.Proofs.Ythcbekccnmdgaaa
open Go.RowKit Go.Shelf

theorem cmpL_ne {xn xv yn yv : Tx} (h : xn ≠ yn) : cmpL (xn, xv) (yn, yv) = cb xn yn := by
  unfold cmpL
  simp only
  rw [if_pos (fun e => h ((cb_eq _ _).2 e))]
theorem cmpL_eqn {xn xv yv : Tx} : cmpL (xn, xv) (xn, yv) = cb xv yv := by
  unfold cmpL
  simp only
  rw [if_neg (by rw [cb_ord.refl]; simp)]
theorem drewN3 (w : World) (a b c : Nat) : ((w.drewN a).drewN b).drewN c = w.drewN (a + (b + c)) := by
  rw [World.drewN_drewN, World.drewN_drewN]
theorem drewN4 (w : World) (a b c d : Nat) : (((w.drewN a).drewN b).drewN c).drewN d = w.drewN (a + (b + (c + d))) := by
  rw [World.drewN_drewN, World.drewN_drewN, World.drewN_drewN]
set_option maxHeartbeats 1000000 in
theorem rless_any (va vb : Value) (a b : List Lb) (w : World) (ha : IsLs w va a) (hb : IsLs w vb b) : Calls Try.prog 27 #[va, vb] w fun e w' => e = .returned (.bool (lessL a b)) ∧ ∃ n, w' = w.drewN n := by
  obtain ⟨aa, ca, rfl⟩ := ha.slice
  obtain ⟨ab, cb', rfl⟩ := hb.slice
  have hba := ha.bound
  have hbb := hb.bound
  replace ha := hid ha
  replace hb := hid hb
  go_enter Try.func27, Try.ntmps27
  go_wp2
  go_loopw [5] (fun iv wr => ∃ k q : Nat, k ≤ a.length ∧ k ≤ b.length ∧ iv = .int .i64 (k : Int) ∧ Hid (lessL (a.drop k) (b.drop k) = lessL a b) ∧ wr = w.drewN q) (fun iv _ => a.length - (intOf iv).toNat)
  case atStart => exact ⟨0, 0, by omega, by omega, rfl, rfl, rfl⟩
  case round =>
    obtain ⟨k, q, hka, hkb, rfl, hp, rfl⟩ := hrel
    by_cases hlt : k < a.length ∧ k < b.length
    · have hlta : (k : Int) < (a.length : Int) := by omega
      have hltb : (k : Int) < (b.length : Int) := by omega
      obtain ⟨hlta', hltb'⟩ := hlt
      obtain ⟨b1, o1, rfl, hc1⟩ := ha.out.at hlta'
      obtain ⟨b2, o2, rfl, hc2⟩ := hb.out.at hltb'
      obtain ⟨⟨xn, xv⟩, hx⟩ : ∃ x, a[k]? = some x := ⟨_, List.getElem?_eq_getElem hlta'⟩
      obtain ⟨⟨yn, yv⟩, hy⟩ : ∃ x, b[k]? = some x := ⟨_, List.getElem?_eq_getElem hltb'⟩
      obtain ⟨c0, c1⟩ := hc1 k _ hx
      obtain ⟨d0, d1⟩ := hc2 k _ hy
      have hst := hid ((less_step hx hy).symm.trans hp.out)
      simp only at c0 c1 d0 d1
      unfold str at *
      clear hp hc1 hc2 hx hy
      by_cases e1 : xn = yn
      · have e1' : (xn == yn) = true := by simpa using e1
        by_cases e2 : xv = yv
        · have e2' : (xv == yv) = true := by simpa using e2
          have hp : Hid (lessL (a.drop (k + 1)) (b.drop (k + 1)) = lessL a b) := by
            have := hst.out
            rw [e1, e2, cmpL_ord.refl, if_neg (by simp)] at this
            exact this
          clear e1 e2 hst
          go_wp2
          go_quiet (fail)
          go_wp2
          go_quiet (fail)
          go_wp2
          exact ⟨⟨k + 1, _, by omega, by omega, by go_num, hp, rfl⟩, by simp [intOf]; omega⟩
        · have e2' : (xv == yv) = false := by simpa using e2
          have e : Hid (Op.bytesLess xv yv = lessL a b) := by
            have := hst.out
            rw [e1, cmpL_eqn, if_pos (fun h => e2 ((cb_eq _ _).2 h)), ← bless_cb] at this
            exact this
          clear e1 e2 hst
          go_wp2
          go_quiet (fail)
          go_wp2
          go_quiet (fail)
          go_wp2
          go_quiet (fail)
          go_wp2
          go_ret
          exact ⟨ret_bool e.out, _, drewN4 ..⟩
      · have e1' : (xn == yn) = false := by simpa using e1
        have e : Hid (Op.bytesLess xn yn = lessL a b) := by
          have := hst.out
          rw [cmpL_ne e1, if_pos (fun h => e1 ((cb_eq _ _).2 h)), ← bless_cb] at this
          exact this
        clear e1 hst
        go_wp2
        go_quiet (fail)
        go_wp2
        go_quiet (fail)
        go_wp2
        go_ret
        exact ⟨ret_bool e.out, _, drewN3 ..⟩
    · by_cases hlta : (k : Int) < (a.length : Int)
      · have hltb : ¬ (k : Int) < (b.length : Int) := by omega
        have e : Hid (decide (a.length < b.length) = lessL a b) := (less_end (by omega) hka hkb).symm.trans hp.out
        clear hp hlt
        go_wp2
        go_ret
        exact ⟨ret_bool e.out, q, rfl⟩
      · have e : Hid (decide (a.length < b.length) = lessL a b) := (less_end (by omega) hka hkb).symm.trans hp.out
        clear hp hlt
        go_wp2
        go_ret
        exact ⟨ret_bool e.out, q, rfl⟩
end Go.Proofs.Ythcbekccnmdgaaa
