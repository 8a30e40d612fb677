/- Contract of Crash, of whatever store; some of the chapter's rows (awake). -/
import Derived.Test.YtinnegkkfaaceaaW15
namespace Go.Proofs.Ytinnegkkfaaceaa
open Go.RowKit Go.Maps Go.MapKept Go.Shelf

set_option maxHeartbeats 1000000 in
theorem crash_none {B sb : Nat} {g : Gs} (w : World) (h : StoreAt B w sb g) (v : Value) (hv : ∃ a n c, v = .slice a n c) (keep : List Int) (h0 : g.l = []) :
    Calls Try.prog 22 #[ptr sb, v] w fun e w' => e = .returned (.tuple #[]) ∧ ∃ g', g'.abs = g.abs.crash keep ∧ Step B sb w w' g g' := by
  have hm := hid (made_yes w h)
  have hnm := names_any w h
  rw [h0] at hnm
  replace hnm := hid hnm
  obtain ⟨av, nv, cv, rfl⟩ := hv
  have fin : Hid (∀ w1, Below w.heap.size w w1 → w1.frozen? ⟨sb, 2, none⟩ = false ∧ w1.cell? ⟨sb, 2, none⟩ = some (.int .i64 g.left) ∧ ∃ g', g'.abs = g.abs.crash keep ∧ Step B sb w (w1.setCell ⟨sb, 2, none⟩ (.int .i64 (-1))) g g') := by
    intro w1 hb
    have h1 := h.below hb
    refine ⟨frozen_of h1.cell 2, by rw [cell_of h1.cell]; rfl, { g with left := -1 }, ?_, (Step.below h hb).trans ⟨h1.left (-1) (by omega), kept_set w1 sb 2 _ (.inl rfl), fun k hk => .inl hk⟩⟩
    show (⟨g.l.map Fg.e, g.acts, -1⟩ : St) = ⟨crashL (g.l.map Fg.e) keep, g.acts, -1⟩
    rw [h0]; rfl
  unfold ptr at hm hnm ⊢
  clear h h0
  go_enter Try.func22, Try.ntmps22
  go_wp2_with (first | (go_at_call 51; refine hm.out.mono ?_; rintro e w' ⟨rfl, hw⟩; have hw' := hw.symm; subst hw'; clear hw) | (go_at_call 19; refine hnm.out.mono ?_; rintro e w1 ⟨na, nc, rfl, _, hb⟩; obtain ⟨q1, q2, q3⟩ := fin.out w1 hb; replace q3 := hid q3; clear hb))
  go_loopw [15] (fun i wr => i = .int .i64 0 ∧ wr = w1) (fun _ _ => 0)
  case atStart => exact ⟨rfl, rfl⟩
  case round =>
    obtain ⟨rfl, rfl⟩ := hrel
    go_wp2
    go_end0
    exact ⟨rfl, q3.out⟩
theorem crash_any {B sb : Nat} {g : Gs} (w : World) (h : StoreAt B w sb g) (hB : B ≤ w.heap.size) (v : Value) (keep : List Int) (hI : IsI w v keep) (hv : keep ≠ [] → ∀ b, v.ownBlock = some b → ¬ foot sb g b) :
    Calls Try.prog 22 #[ptr sb, v] w fun e w' => e = .returned (.tuple #[]) ∧ ∃ g', g'.abs = g.abs.crash keep ∧ Step B sb w w' g g' := by
  by_cases h0 : g.l = []
  · obtain ⟨_, _, a, c, e, _⟩ := hI
    exact crash_none w h v ⟨a, _, c, e⟩ keep h0
  · exact crash_some w h hB v keep hI hv (List.length_pos_iff.2 h0)
end Go.Proofs.Ytinnegkkfaaceaa
