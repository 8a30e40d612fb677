/- Contract of the document's Read, part 1: a reader that has failed, a number that isn't there. -/
import Derived.Test.YthhfahnlcoiblaaQr
namespace Go.Proofs.Ythhfahnlcoiblaa
open Go.RowKit

/-- what Read tells, and makes of the document's reader. -/
def QRead (w : World) (q : Nat) (bs : Value) (z : List Int) (at_ : Nat) (fl : Bool) (k : Nat) (most : Int) (e : Ending) (w' : World) : Prop :=
  ∃ a c at' fl', e = .returned (agg (readP k most (stOf z at_ fl)).1 (.slice a (readP k most (stOf z at_ fl)).1.l.length c)) ∧ Own w.heap.size w' (.slice a (readP k most (stOf z at_ fl)).1.l.length c) (readP k most (stOf z at_ fl)).1.l ∧ stOf z at' fl' = (readP k most (stOf z at_ fl)).2 ∧ at' ≤ z.length ∧ w'.heap[q]? = some (.cells #[bs, .int .i64 (at' : Int), .bool fl'] 40) ∧ Kept (· = q) w w'
set_option maxRecDepth 100000 in
set_option maxHeartbeats 2000000 in
theorem qread_failed {q : Nat} {bs : Value} {z : List Int} {at_ : Nat} (k : Nat) (most : Int) (w : World) (h : RefAt w q bs z at_ true) :
    Calls Try.prog 19 #[ptr q, .int .u8 (k : Int), .int .i64 most] w fun e w' => QRead w q bs z at_ true k most e w' := by
  have c2 : w.cell? ⟨q, 2, none⟩ = some (.bool true) := by rw [cell_of h.cell]; rfl
  have hql := lt_of_block h.cell
  have hw := ((Below.refl w.heap.size w).alloc (Nat.le_refl _) (.cells (zcells (k : Int)) 29)).alloc (by simp) (.cells (zcells (k : Int)) 29)
  have hfin : Hid (QRead w q bs z at_ true k most (.returned (agg (zeroV k) (.slice none 0 0))) ((w.alloc (.cells (zcells (k : Int)) 29)).alloc (.cells (zcells (k : Int)) 29))) := by
    have e : readP k most (stOf z at_ true) = (zeroV k, none) := readP_none k most
    refine ⟨none, 0, at_, true, by rw [e]; rfl, by rw [e]; exact own_nil _ _, by rw [e]; rfl, h.le, (hw.block q hql).trans h.cell, kept_of_below hw⟩
  clear h hw
  unfold zcells at hfin
  unfold ptr
  go_enter Try.func19, Try.ntmps19
  go_wp2
  refine bodyPost_ret (v := agg (zeroV k) (.slice none 0 0)) ?_ rfl hfin.out
  simp [results, Try.results19, go_sem]
  rfl
end Go.Proofs.Ythhfahnlcoiblaa
