/- The document's Same. -/
import Derived.Test.YtffopkpbekjanabW4
namespace Go.Proofs.Ytffopkpbekjanab
open Go.RowKit

theorem same_all (a b : List Int) (hl : a.length = b.length) (h : ∀ i, i < a.length → a.getD i 0 = b.getD i 0) : a = b := by
  apply List.ext_getElem hl
  intro i h1 h2
  have := h i h1
  simpa [List.getD, List.getElem?_eq_getElem h1, List.getElem?_eq_getElem h2] using this
set_option maxHeartbeats 1000000 in
theorem same_any (va vb : Value) (a b : List Int) (w : World) (ha : IsB w va a) (hb : IsB w vb b) :
    Calls Try.prog 8 #[va, vb] w fun e w' => e = .returned (.bool (a == b)) ∧ ∃ n, w' = w.drewN n := by
  obtain ⟨aa, ca, rfl⟩ := ha.slice
  obtain ⟨ab, cb, rfl⟩ := hb.slice
  have hba := ha.bound
  have hbb := hb.bound
  by_cases hl : a.length = b.length
  · have hl' : ((a.length : Int) == (b.length : Int)) = true := by simp; omega
    replace ha := hid ha
    replace hb := hid hb
    have HL := hid hl
    clear hl
    go_enter Try.func8, Try.ntmps8
    go_wp2
    go_loopw [5] (fun iv wr => ∃ k : Nat, k ≤ a.length ∧ iv = .int .i64 (k : Int) ∧ (∀ i, i < k → a.getD i 0 = b.getD i 0) ∧ ∃ n, wr = w.drewN n) (fun iv _ => a.length - (intOf iv).toNat)
    case atStart => exact ⟨0, by omega, rfl, (by intro i hi; omega), 0, rfl⟩
    case round =>
      obtain ⟨k, hk, rfl, hp, n, rfl⟩ := hrel
      by_cases hlt : k < a.length
      · have hlt' : (k : Int) < (a.length : Int) := by omega
        have hltb' : k < b.length := by have := HL.out; omega
        have hltb : (k : Int) < (b.length : Int) := by omega
        obtain ⟨b1, o1, rfl, hc1⟩ := (ha.out.at).2.2.2 (by omega)
        obtain ⟨b2, o2, rfl, hc2⟩ := (hb.out.at).2.2.2 (by omega)
        replace hc1 := hc1 k hlt
        replace hc2 := hc2 k hltb'
        by_cases he : a.getD k 0 = b.getD k 0
        · have he' : (a.getD k 0 == b.getD k 0) = true := by simpa using he
          have hp' : Hid (∀ i, i < k + 1 → a.getD i 0 = b.getD i 0) := fun i hi => by
            by_cases h : i = k
            · subst h; exact he
            · exact hp i (by omega)
          clear hp he
          generalize a.getD k 0 = x at *
          generalize b.getD k 0 = y at *
          go_wp2
          go_quiet (fail)
          go_wp2
          exact ⟨⟨k + 1, by omega, by go_num, hp'.out, _, rfl⟩, by simp [intOf]; omega⟩
        · have he' : (a.getD k 0 == b.getD k 0) = false := by simpa using he
          have e : (a == b) = false := by
            simp
            intro h
            exact he (by rw [h])
          clear hp he
          generalize a.getD k 0 = x at *
          generalize b.getD k 0 = y at *
          go_wp2
          go_quiet (fail)
          go_wp2
          go_ret
          exact ⟨by rw [e]; rfl, _, World.drewN_drewN ..⟩
      · have hlt' : ¬ (k : Int) < (a.length : Int) := by omega
        obtain rfl : k = a.length := by omega
        have e : (a == b) = true := by simpa using same_all a b HL.out hp
        clear hp
        go_wp2
        go_ret
        exact ⟨rfl, n, rfl⟩
  · have hl' : ((a.length : Int) == (b.length : Int)) = false := by simp; omega
    have e : (a == b) = false := by simp; intro h; exact hl (by rw [h])
    clear ha hb hl
    rw [e]
    clear e
    go_enter Try.func8, Try.ntmps8
    go_wp2
    go_ret
    exact ⟨rfl, 0, rfl⟩
end Go.Proofs.Ytffopkpbekjanab
