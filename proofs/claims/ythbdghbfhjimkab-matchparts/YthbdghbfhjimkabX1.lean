/- Contracts of the document's own Same, Copy, sign, May, Does. -/
import Derived.Test.YthbdghbfhjimkabU2
import Derived.Test.YthbdghbfhjimkabR1
namespace Go.Proofs.Ythbdghbfhjimkab
open Go.RowKit Go.Shelf

set_option maxHeartbeats 1000000 in
theorem copyM_any (v : Value) (l : List Mt) (w : World) (h : IsMs w v l) (hl : l.length ≤ 3000000) : Calls Try.prog 9 #[v] w fun e w' => ∃ a c, e = .returned (.slice a l.length c) ∧ OwnM w.heap.size w' (.slice a l.length c) l ∧ Below w.heap.size w w' := by
  obtain ⟨a, c, rfl⟩ := h.slice
  obtain ⟨a', c', w', hrun, ho, hg, _⟩ := appM_run (ownM_nil w.heap.size w) h (by simp; omega) (Nat.le_refl _)
  have hb := hid (appM_low (ownM_nil w.heap.size w) (Nat.le_refl _) hg)
  simp only [List.length_nil, Nat.zero_add, List.nil_append] at hrun ho
  replace ho := hid ho
  clear h hg
  go_enter Try.func9, Try.ntmps9
  go_wp2_with (at_builtin; refine wpList_append_run _ rfl _ _ 25 rfl _ _ _ _ rfl rfl hrun ?_)
  go_ret
  exact ⟨_, _, rfl, ho.out, hb.out⟩
theorem rmay_no {m : List Mt} {x : Mt} (h : x ∈ m) (hx : mayM1 x = false) : Hid (false = mayM m) := by
  unfold Hid
  symm
  cases hm : mayM m
  · rfl
  · rw [(mayM_iff.1 hm).2 x h] at hx
    cases hx
end Go.Proofs.Ythbdghbfhjimkab
