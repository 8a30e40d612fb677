/- Contract of Value. -/
import Derived.Test.YthbdghbfhjimkaaW2
namespace Go.Proofs.Ythbdghbfhjimkaa
open Go.RowKit Go.Shelf

theorem ret_str {a b : Tx} (h : a = b) : Ending.returned (.string ⟨a.toArray⟩) = .returned (.string ⟨b.toArray⟩) := by rw [h]
set_option maxHeartbeats 1000000 in
theorem value_any (v : Value) (l : List Lb) (n : Tx) (w : World) (h : IsLs w v l) : Calls Try.prog 34 #[v, str n] w fun e w' => e = .returned (str (valueL l n)) ∧ Below w.heap.size w w' := by
  obtain ⟨a, c, rfl⟩ := h.slice
  have hb := h.bound
  replace h := hid h
  unfold str
  go_enter Try.func34, Try.ntmps34
  go_wp2
  go_loopw [9] (fun iv wr => ∃ j : Nat, j ≤ l.length ∧ iv = .int .i64 j ∧ Hid (valueL (l.drop j) n = valueL l n) ∧ Hid (Below w.heap.size w wr)) (fun iv _ => l.length - (intOf iv).toNat)
  case atStart => exact ⟨0, by omega, rfl, rfl, Below.refl _ _⟩
  case round =>
    obtain ⟨j, hj, rfl, hp, hB⟩ := hrel
    obtain ⟨V, rfl⟩ : ∃ V : World, V = wr := ⟨_, rfl⟩
    by_cases hlt : j < l.length
    · have hlt' : (j : Int) < (l.length : Int) := by omega
      obtain ⟨b, off, rfl, hc⟩ := (h.out.below hB.out).at hlt
      obtain ⟨⟨xn, xv⟩, hx⟩ : ∃ x, l[j]? = some x := ⟨_, List.getElem?_eq_getElem hlt⟩
      obtain ⟨c0, c1⟩ := hc j _ hx
      have hbl := World.block_lt_of_cell? V _ c0
      have hs := value_step n hx
      simp only at c0 c1 hbl hs
      unfold str at *
      by_cases he : xn = n
      · have he' : (xn == n) = true := by simpa using he
        have e : Hid (xv = valueL l n) := by rw [← hp.out, hs, if_pos he]; rfl
        clear he hs hp hc hx
        go_wp2
        go_ret
        exact ⟨ret_str e.out, low' hB.out (alloc_below _ _)⟩
      · have he' : (xn == n) = false := by simpa using he
        have hp' : Hid (valueL (l.drop (j + 1)) n = valueL l n) := by rw [← hp.out, hs, if_neg he]; rfl
        clear he hs hp hc hx
        go_wp2
        exact ⟨⟨j + 1, by omega, by go_num, hp', hid (low' hB.out (alloc_below _ _))⟩, by simp [intOf]; omega⟩
    · have hlt' : ¬ (j : Int) < (l.length : Int) := by omega
      obtain rfl : j = l.length := by omega
      have e : Hid ([] = valueL l n) := by rw [← hp.out, List.drop_length]; rfl
      clear hp
      go_wp2
      go_ret
      exact ⟨ret_str e.out, hB.out⟩
end Go.Proofs.Ythbdghbfhjimkaa
