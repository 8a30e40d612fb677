/- Contract of the program's Next. -/
import Derived.Test.YtffopkpbekjanaaW7
namespace Go.Proofs.Ytffopkpbekjanaa
open Go.RowKit

set_option maxHeartbeats 1000000 in
theorem next_no {v : Value} {zs : List Int} {w : World} (h : IsB w v zs) (hn : nextP zs = none) :
    Calls Try.prog 14 #[v] w fun e w' => e = .returned (.tuple #[.slice none 0 0, .int .i64 0, .int .i64 40]) ∧ Below w.heap.size w w' := by
  obtain ⟨a, c, rfl⟩ := h.slice
  have hf := hid (first_none h hn)
  clear h hn
  go_enter Try.func14, Try.ntmps14
  go_wp2_with (go_at_call 27; refine hf.out.mono ?_; rintro e w1 ⟨rfl, b1⟩)
  exact bodyPost_ret (v := .tuple #[.slice none 0 0, .int .i64 0, .int .i64 40]) (by simp [results, Try.results14, go_sem]) rfl ⟨rfl, b1⟩
set_option maxHeartbeats 1000000 in
theorem next_yes {v : Value} {zs : List Int} {w : World} (h : IsB w v zs) {p : List Int} {u : Nat} (hn : nextP zs = some (p, u)) :
    Calls Try.prog 14 #[v] w fun e w' => ∃ a c, e = .returned (.tuple #[.slice a p.length c, .int .i64 (u : Int), .int .i64 0]) ∧ Own w.heap.size w' (.slice a p.length c) p ∧ Below w.heap.size w w' := by
  obtain ⟨a, c, rfl⟩ := h.slice
  have hb := h.bound
  obtain ⟨hu, hp, hu5⟩ := next_le h.byt hn
  have hu0 : ((u : Int) == 0) = false := by simp; omega
  have hf := hid (first_some h hn)
  clear h hn
  go_enter Try.func14, Try.ntmps14
  go_wp2_with fail
  refine hf.out.mono ?_
  rintro e w1 ⟨b, off, o, d, rfl, hB, rfl, b1⟩
  have hc := hid (clone_any _ _ _ (hB.below b1) (by omega))
  replace b1 := hid b1
  clear hB hf
  go_wp2_with fail
  refine hc.out.mono ?_
  rintro e w2 ⟨a2, c2, rfl, o2, b2⟩
  have O2 := hid (o2.base b1.out.size)
  have B2 := hid (low' b1.out b2)
  clear o2 b2 hc b1
  go_wp2_with fail
  exact bodyPost_ret (v := .tuple #[.slice a2 p.length c2, .int .i64 (u : Int), .int .i64 0]) (by simp [results, Try.results14, go_sem]) rfl ⟨_, _, rfl, O2.out, B2.out⟩
end Go.Proofs.Ytffopkpbekjanaa
