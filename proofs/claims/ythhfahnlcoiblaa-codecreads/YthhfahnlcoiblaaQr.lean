/- Contracts of the document's reader: Err, Done. -/
import Derived.Test.YthhfahnlcoiblaaQn
namespace Go.Proofs.Ythhfahnlcoiblaa
open Go.RowKit

/-- what the document's reader has left. -/
def stOf (z : List Int) (at_ : Nat) (fl : Bool) : St := if fl then none else some (z.drop at_)
set_option maxHeartbeats 400000 in
theorem qerr {q : Nat} {bs : Value} {z : List Int} {at_ : Nat} {fl : Bool} (w : World) (h : RefAt w q bs z at_ fl) :
    Calls Try.prog 21 #[ptr q] w fun e w' => e = .returned (.int .i64 (errP (stOf z at_ fl))) ∧ w' = w := by
  have c2 : w.cell? ⟨q, 2, none⟩ = some (.bool fl) := by rw [cell_of h.cell]; rfl
  clear h
  unfold ptr
  cases fl
  · go_enter Try.func21, Try.ntmps21
    go_wp2
    go_ret
    exact ⟨rfl, rfl⟩
  · go_enter Try.func21, Try.ntmps21
    go_wp2
    go_ret
    exact ⟨rfl, rfl⟩
theorem done_drop (z : List Int) (at_ : Nat) : doneP (some (z.drop at_)) = if at_ < z.length then 60 else 0 := by
  by_cases h : at_ < z.length
  · rw [if_pos h, List.drop_eq_getElem_cons h]; rfl
  · rw [if_neg h, List.drop_of_length_le (by omega)]; rfl
set_option maxHeartbeats 400000 in
theorem qdone {q : Nat} {bs : Value} {z : List Int} {at_ : Nat} {fl : Bool} (w : World) (h : RefAt w q bs z at_ fl) :
    Calls Try.prog 23 #[ptr q] w fun e w' => e = .returned (.int .i64 (doneP (stOf z at_ fl))) ∧ ∃ n, w' = w.drewN n := by
  obtain ⟨a, c, rfl⟩ := h.b.slice
  obtain ⟨-, hb1, hb2⟩ := h.b.bound
  have c0 : w.cell? ⟨q, 0, none⟩ = some (.slice a z.length c) := by rw [cell_of h.cell]; rfl
  have c1 : w.cell? ⟨q, 1, none⟩ = some (.int .i64 (at_ : Int)) := by rw [cell_of h.cell]; rfl
  have c2 : w.cell? ⟨q, 2, none⟩ = some (.bool fl) := by rw [cell_of h.cell]; rfl
  clear h
  unfold ptr
  cases fl
  · have hd := hid (done_drop z at_)
    by_cases hl : at_ < z.length
    · have hl' : (at_ : Int) < (z.length : Int) := by omega
      have dl : decide ((at_ : Int) < (z.length : Int)) = true := by simpa using hl'
      go_enter Try.func23, Try.ntmps23
      go_wp2
      go_quiet (fail)
      go_wp2
      go_ret
      exact ⟨by rw [show doneP (stOf z at_ false) = 60 by show doneP (some (z.drop at_)) = 60; rw [hd.out, if_pos hl]]; rfl, _, rfl⟩
    · have hl' : ¬ (at_ : Int) < (z.length : Int) := by omega
      have dl : decide ((at_ : Int) < (z.length : Int)) = false := by simpa using hl'
      go_enter Try.func23, Try.ntmps23
      go_wp2
      go_quiet (fail)
      go_wp2
      go_ret
      exact ⟨by rw [show doneP (stOf z at_ false) = 0 by show doneP (some (z.drop at_)) = 0; rw [hd.out, if_neg hl]]; rfl, _, rfl⟩
  · go_enter Try.func23, Try.ntmps23
    go_wp2
    go_quiet (fail)
    go_wp2
    go_ret
    exact ⟨rfl, _, rfl⟩
end Go.Proofs.Ythhfahnlcoiblaa
