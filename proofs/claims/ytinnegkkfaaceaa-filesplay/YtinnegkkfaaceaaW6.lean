/- Contracts of the functions that the store's calls hand to find: Size's, Synced's, Read's, Sync's, Truncate's, Remove's, Rename's. -/
import Derived.Test.YtinnegkkfaaceaaW5
import Derived.RegionTactic
import Derived.Deep.RegionLaw
namespace Go.Proofs.Ytinnegkkfaaceaa
open Go.RowKit Go.Maps Go.MapKept Go.Shelf

set_option maxHeartbeats 400000 in
theorem size1 (w : World) {f : Fg} (h : FileAt w f) : Calls Try.prog 44 #[ptr f.fb] w fun e w' => e = .returned (.int .i64 (f.b.length : Int)) ∧ w' = w := by
  obtain ⟨av, cv, hv⟩ := row_slice h.row
  have c0 : w.cell? ⟨f.fb, 0, none⟩ = some (.slice av f.b.length cv) := by rw [cell_of h.cell, hv]; rfl
  unfold ptr
  clear h hv
  go_enter Try.func44, Try.ntmps44
  go_wp2
  go_ret
  exact ⟨rfl, rfl⟩
set_option maxHeartbeats 400000 in
theorem synced1 (w : World) {f : Fg} (h : FileAt w f) : Calls Try.prog 45 #[ptr f.fb] w fun e w' => e = .returned (.int .i64 (f.s : Int)) ∧ w' = w := by
  have c1 : w.cell? ⟨f.fb, 1, none⟩ = some (.int .i64 (f.s : Int)) := by rw [cell_of h.cell]; rfl
  unfold ptr
  clear h
  go_enter Try.func45, Try.ntmps45
  go_wp2
  go_ret
  exact ⟨rfl, rfl⟩
set_option maxHeartbeats 400000 in
theorem read1 (w : World) {f : Fg} (h : FileAt w f) (b : Nat) (v : Value) (hc : w.heap[b]? = some (.cells #[v] 30)) (hv : ∃ a n c, v = .slice a n c) :
    Calls Try.prog 41 #[ptr f.fb, ptr b] w fun e w' => e = .returned (.int .i64 0) ∧ ∃ a c w1, w1.ownsRow w.heap.size 5 1 (.slice a f.b.length c) f.b.length (f.b.map bv) ∧ Below w.heap.size w w1 ∧ w' = w1.setCell ⟨b, 0, none⟩ (.slice a f.b.length c) := by
  have hcl := hid (clone_row h.row h.big)
  have c0 : w.cell? ⟨f.fb, 0, none⟩ = some f.v := by rw [cell_of h.cell]; rfl
  obtain ⟨av, cv, hv1⟩ := row_slice h.row
  rw [hv1] at hcl c0
  have hbl : b < w.heap.size := lt_of_block hc
  have e0 : w.cell? ⟨b, 0, none⟩ = some v := by rw [cell_of hc]; rfl
  have y0 : w.frozen? ⟨b, 0, none⟩ = false := frozen_of hc 0
  obtain ⟨oa, on, oc, rfl⟩ := hv
  unfold ptr
  clear h hv1 hc
  go_enter Try.func41, Try.ntmps41
  go_wp2_with (go_at_call 42; refine hcl.out.mono ?_; rintro e w1 ⟨v', rfl, hown, hb⟩; obtain ⟨a', c', rfl⟩ := row_slice hown; have d0 : w1.cell? ⟨b, 0, none⟩ = some (.slice oa on oc) := (hb.cell (p := ⟨b, 0, none⟩) hbl).trans e0; have x0 : w1.frozen? ⟨b, 0, none⟩ = false := (hb.frozen (p := ⟨b, 0, none⟩) hbl).trans y0; have hown := hid hown; have hb := hid hb)
  go_ret
  exact ⟨rfl, a', c', w1, hown.out, hb.out, rfl⟩
set_option maxHeartbeats 400000 in
theorem sync1 (w : World) {f : Fg} (h : FileAt w f) : Calls Try.prog 55 #[ptr f.fb] w fun e w' => e = .returned (.int .i64 0) ∧ Turned w w' f { f with s := f.b.length } := by
  obtain ⟨av, cv, hv⟩ := row_slice h.row
  have c0 : w.cell? ⟨f.fb, 0, none⟩ = some (.slice av f.b.length cv) := by rw [cell_of h.cell, hv]; rfl
  have c1 : w.cell? ⟨f.fb, 1, none⟩ = some (.int .i64 (f.s : Int)) := by rw [cell_of h.cell]; rfl
  have z1 : w.frozen? ⟨f.fb, 1, none⟩ = false := frozen_of h.cell 1
  have hh := hid h
  unfold ptr
  clear h hv
  go_enter Try.func55, Try.ntmps55
  go_wp2
  go_ret
  exact ⟨rfl, turned_sync hh.out (Nat.le_refl _) _ rfl⟩
set_option maxHeartbeats 1000000 in
theorem truncate1_bad (w : World) {f : Fg} (h : FileAt w f) (b : Nat) (n : Int) (hc : w.cell? ⟨b, 0, none⟩ = some (.int .i64 n)) (hn : n < 0 ∨ (f.b.length : Int) < n) :
    Calls Try.prog 56 #[ptr f.fb, ptr b] w fun e w' => e = .returned (.int .i64 2) ∧ ∃ q, w' = w.drewN q := by
  obtain ⟨av, cv, hv⟩ := row_slice h.row
  have c0 : w.cell? ⟨f.fb, 0, none⟩ = some (.slice av f.b.length cv) := by rw [cell_of h.cell, hv]; rfl
  unfold ptr
  clear h hv
  by_cases h0 : n < 0
  · have hd : decide (n < 0) = true := by simpa using h0
    go_enter Try.func56, Try.ntmps56
    go_wp2
    go_quiet (fail)
    go_wp2
    go_ret
    exact ⟨rfl, _, rfl⟩
  · have hd : decide (n < 0) = false := by simpa using h0
    have h1 : (f.b.length : Int) < n := by omega
    clear hn
    go_enter Try.func56, Try.ntmps56
    go_wp2
    go_quiet (fail)
    go_wp2
    go_ret
    exact ⟨rfl, _, rfl⟩
set_option maxHeartbeats 1000000 in
theorem truncate1 (w : World) {f : Fg} (h : FileAt w f) (b : Nat) (n : Nat) (hc : w.cell? ⟨b, 0, none⟩ = some (.int .i64 (n : Int))) (hn : n ≤ f.b.length) :
    Calls Try.prog 56 #[ptr f.fb, ptr b] w fun e w' => e = .returned (.int .i64 0) ∧ ∃ v', Turned w w' f { f with b := f.b.take n, s := min f.s n, v := v' } := by
  obtain ⟨av, cv, hv⟩ := row_slice h.row
  have c0 : w.cell? ⟨f.fb, 0, none⟩ = some (.slice av f.b.length cv) := by rw [cell_of h.cell, hv]; rfl
  have hcut : Hid (∀ q, Calls Try.prog 54 #[ptr f.fb, .int .i64 (n : Int)] (w.drewN q) fun e w' => e = .returned (.tuple #[]) ∧ ∃ v', Turned w w' f { f with b := f.b.take n, s := min f.s n, v := v' }) := by
    intro q
    have hq : FileAt (w.drewN q) f := h.keep fun _ _ => rfl
    have ht : ∀ {w' : World} {f' : Fg}, Turned (w.drewN q) w' f f' → Turned w w' f f' := fun ht => ⟨ht.file, ht.name, ht.fb, ⟨ht.kept.os, ht.kept.tape, ht.kept.output, ht.kept.size, ht.kept.block⟩, ht.row⟩
    by_cases hlt : n < f.b.length
    · refine (cut_less _ hq n hlt).mono ?_
      rintro e w' ⟨rfl, v', h1⟩
      exact ⟨rfl, v', ht h1⟩
    · obtain rfl : n = f.b.length := by omega
      refine (cut_whole _ hq).mono ?_
      rintro e w' ⟨rfl, h1⟩
      refine ⟨rfl, f.v, ?_⟩
      rw [List.take_length, Nat.min_eq_left h.syn]
      exact ht h1
  have hbig := h.big
  unfold ptr at hcut ⊢
  have hd : decide ((n : Int) < 0) = false := by simp
  have h1 : ¬ (f.b.length : Int) < (n : Int) := by omega
  clear h hv
  go_enter Try.func56, Try.ntmps56
  go_wp2
  go_quiet (fail)
  go_wp2_with (go_at_call 54; refine (hcut.out _).mono ?_; rintro e w1 ⟨rfl, v', ht⟩; have ht := hid ht)
  go_ret
  exact ⟨rfl, v', ht.out⟩
end Go.Proofs.Ytinnegkkfaaceaa
