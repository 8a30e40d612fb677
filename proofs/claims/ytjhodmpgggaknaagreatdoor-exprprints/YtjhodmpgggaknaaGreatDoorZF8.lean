import Derived.Test.YtjhodmpgggaknaaGreatDoorZHB
import Derived.Test.YtjhodmpgggaknaaGreatDoorZD5
import Derived.Test.YtjhodmpgggaknaaGreatDoorZGN
/- The document's Parse. -/
namespace Go.Proofs.YtjhodmpgggaknaaGreatDoor
open Go.RowKit Go.Shelf Go.Maps

theorem refAll_long (s : Tx) (h : 4096 < s.length) (w : World) : Calls Tryz.prog 19 #[.string ⟨s.toArray⟩] w fun e w' => e = .returned (.tuple #[.slice none 0 0, .int .i64 0, .int .i64 3]) ∧ w' = w := by
  have h' : (4096 : Int) < (s.length : Int) := by omega
  go_enter Tryz.func19, Tryz.ntmps19
  go_wp2
  go_ret3
  exact ⟨rfl, rfl⟩
/-- what a condition tells of what is read from there on. -/
theorem rowD_out {l : List Tk} {i base : Nat} {w w' : World} {e : Ending} (h : RowD l .or i base w e w') : ∃ a n c nx ns, e = .returned (.tuple #[.slice a n c, .int .i64 nx]) ∧ OwnN w.heap.size w' (.slice a n c) ns ∧ n = ns.length ∧ ns.length ≤ l.length + 1 ∧ Below w.heap.size w w' ∧ ((nx = -1 ∧ outP (kat l i) = ([], [], 100)) ∨ ∃ t j : Nat, ∃ u : Tree, nx = (j : Int) ∧ i < j ∧ j ≤ l.length ∧ ns = flat base u ∧ t = u.size ∧ ns.length = t ∧ outP (kat l i) = if t ≤ 31 then (flat 0 u, kat l j, 0) else ([], kat l j, 4)) := by
  obtain ⟨hb, ⟨g1, vn, ms, rfl, g2, g3⟩ | ⟨u, j, vn, g1, g2, g3, g4, rfl, g5⟩⟩ := h
  · obtain ⟨a, c, rfl⟩ := g2.slice
    exact ⟨a, _, c, _, ms, rfl, g2, rfl, by omega, hb, .inl ⟨rfl, by unfold outP; rw [g1]⟩⟩
  · obtain ⟨a, c, rfl⟩ := g5.slice
    refine ⟨a, _, c, _, _, rfl, g5, rfl, by rw [flat_len]; omega, hb, .inr ⟨u.size, j, u, rfl, g2, g3, rfl, rfl, flat_len u base, ?_⟩⟩
    unfold outP
    rw [g1]
end Go.Proofs.YtjhodmpgggaknaaGreatDoor
