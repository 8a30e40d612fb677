/- Contracts of the acts on a store that nobody made, and of Great. -/
import Derived.Test.YtinnegkkfaaceaaNilC
namespace Go.Proofs.Ytinnegkkfaaceaa
open Go.RowKit Go.Maps Go.MapKept Go.Shelf

set_option maxHeartbeats 400000 in
theorem size_nil {w : World} {p : Option Addr} (h : NilS w p) (n : List UInt8) : Calls Try.prog 16 #[.pointer p, str n] w fun e w' => e = .returned (.tuple #[.int .i64 0, .int .i64 1]) ∧ Below w.heap.size w w' := by
  have ht := hid (tell_nil h n 44)
  unfold str at *
  clear h
  go_enter Try.func16, Try.ntmps16
  go_wp2_with (go_at_call 43; refine ht.out.mono ?_; rintro e w' ⟨rfl, hb⟩; replace hb := hid hb)
  go_ret2
  exact ⟨rfl, hb.out⟩
set_option maxHeartbeats 400000 in
theorem synced_nil {w : World} {p : Option Addr} (h : NilS w p) (n : List UInt8) : Calls Try.prog 17 #[.pointer p, str n] w fun e w' => e = .returned (.tuple #[.int .i64 0, .int .i64 1]) ∧ Below w.heap.size w w' := by
  have ht := hid (tell_nil h n 45)
  unfold str at *
  clear h
  go_enter Try.func17, Try.ntmps17
  go_wp2_with (go_at_call 43; refine ht.out.mono ?_; rintro e w' ⟨rfl, hb⟩; replace hb := hid hb)
  go_ret2
  exact ⟨rfl, hb.out⟩
theorem find_nil2 {w : World} {p : Option Addr} (h : NilS w p) (n : List UInt8) (k : Nat) (lb : Array Value) : Calls Try.prog 40 #[.pointer p, str n, .func (.func k) #[] lb] w fun e w' => e = .returned (.int .i64 1) ∧ Below w.heap.size w w' := by
  refine (find_nil _ n k lb h).mono ?_
  rintro e w' ⟨rfl, rfl⟩
  exact ⟨rfl, boxed_below w k lb⟩
set_option maxHeartbeats 400000 in
theorem sync_nil {w : World} {p : Option Addr} (h : NilS w p) (n : List UInt8) : Calls Try.prog 25 #[.pointer p, str n] w fun e w' => e = .returned (.int .i64 1) ∧ Below w.heap.size w w' := by
  have hf := hid (find_nil2 h n 55 #[])
  have hc := hid fun w1 => count_no w1 (.pointer p) 1 (by decide)
  unfold str at *
  clear h
  go_enter Try.func25, Try.ntmps25
  go_wp2_with (first | (go_at_call 40; refine hf.out.mono ?_; rintro e w1 ⟨rfl, hb⟩; replace hb := hid hb) | (go_at_call 46; refine (hc.out _).mono ?_; rintro e w2 ⟨rfl, rfl⟩))
  go_ret
  exact ⟨rfl, hb.out⟩
set_option maxHeartbeats 400000 in
theorem truncate_nil {w : World} {p : Option Addr} (h : NilS w p) (n : List UInt8) (k : Int) : Calls Try.prog 26 #[.pointer p, str n, .int .i64 k] w fun e w' => e = .returned (.int .i64 1) ∧ Below w.heap.size w w' := by
  have hb0 := alloc_below w (.cells #[.int .i64 k] 3)
  have hf := hid (find_nil2 (h.below hb0) n 56 #[ptr w.heap.size])
  have hl := hid fun w1 (hb : Below (w.alloc (.cells #[.int .i64 k] 3)).heap.size (w.alloc (.cells #[.int .i64 k] 3)) w1) => low (Below.refl w.heap.size w |>.trans hb0) (by simp) hb
  have hc := hid fun w1 => count_no w1 (.pointer p) 1 (by decide)
  have hmf := mkf
  unfold str at *
  unfold ptr at hf
  clear h hb0
  go_enter Try.func26, Try.ntmps26
  go_wp2_with (first | (go_at_call 40; refine hf.out.mono ?_; rintro e w1 ⟨rfl, hb⟩; replace hb := hid (hl.out w1 hb)) | (go_at_call 46; refine (hc.out _).mono ?_; rintro e w2 ⟨rfl, rfl⟩))
  go_ret
  exact ⟨rfl, hb.out⟩
/-- boxes stay. -/
theorem kept_box {w w1 : World} (hb : Below w.heap.size w w1) {k : Nat} {v : Value} (h : w.cell? ⟨k, 0, none⟩ = some v) : w1.cell? ⟨k, 0, none⟩ = some v := (hb.cell (p := ⟨k, 0, none⟩) (World.block_lt_of_cell? w ⟨k, 0, none⟩ h)).trans h
set_option maxHeartbeats 1600000 in
theorem remove_nil {w : World} {p : Option Addr} (h : NilS w p) (n : List UInt8) : Calls Try.prog 28 #[.pointer p, str n] w fun e w' => e = .returned (.int .i64 1) ∧ Below w.heap.size w w' := by
  obtain ⟨wb, hwb⟩ : ∃ wb, wb = ((w.alloc (.cells #[.pointer p] 24)).alloc (.cells #[str n] 9)).drew := ⟨_, rfl⟩
  have hbb : Below w.heap.size w wb := by rw [hwb]; exact undrew' (((Below.refl _ _).alloc (Nat.le_refl _) _).alloc (by simp) _)
  have hc0 : wb.cell? ⟨w.heap.size, 0, none⟩ = some (.pointer p) := by rw [hwb]; simp
  have hc1 : wb.cell? ⟨w.heap.size + 1, 0, none⟩ = some (str n) := by rw [hwb]; simp
  have hf := hid (find_nil2 (h.below hbb) n 58 #[ptr w.heap.size, ptr (w.heap.size + 1)])
  have hl := hid fun w1 (hb : Below wb.heap.size wb w1) => And.intro (hbb.trans (hb.mono hbb.size)) (And.intro (kept_box hb hc0) (kept_box hb hc1))
  have hc := hid fun w1 => count_no w1 (.pointer p) 1 (by decide)
  have hwb' := hid hwb
  rw [hwb] at hf
  unfold ptr at hf
  unfold str at hf hl ⊢
  unfold str at hwb'
  have hmf := mkf
  clear h hwb hbb hc0 hc1
  go_enter Try.func28, Try.ntmps28
  go_wp2
  go_region_held (fun w' => w'.cell? ⟨w.heap.size, 0, none⟩ = some (.pointer p) ∧ w'.cell? ⟨w.heap.size + 1, 0, none⟩ = some (.string ⟨n.toArray⟩)) (go_keep) (first | (go_at_call 40; refine hf.out.mono ?_; rintro e w1 ⟨rfl, hb⟩; rw [← hwb'.out] at hb; obtain ⟨hb1, hx0, hx1⟩ := hl.out w1 hb; replace hb1 := hid hb1; clear hb) | (go_at_call 46; refine (hc.out _).mono ?_; rintro e w2 ⟨rfl, rfl⟩))
  all_goals (go_wp2; go_ret; exact ⟨rfl, hb1.out⟩)
set_option maxHeartbeats 1600000 in
theorem rename_nil {w : World} {p : Option Addr} (h : NilS w p) (o n : List UInt8) : Calls Try.prog 27 #[.pointer p, str o, str n] w fun e w' => e = .returned (.int .i64 1) ∧ Below w.heap.size w w' := by
  obtain ⟨wb, hwb⟩ : ∃ wb, wb = (((w.alloc (.cells #[.pointer p] 24)).alloc (.cells #[str o] 9)).alloc (.cells #[str n] 9)).drew := ⟨_, rfl⟩
  have hbb : Below w.heap.size w wb := by rw [hwb]; exact undrew' ((((Below.refl _ _).alloc (Nat.le_refl _) _).alloc (by simp) _).alloc (by simp; omega) _)
  have hc0 : wb.cell? ⟨w.heap.size, 0, none⟩ = some (.pointer p) := by rw [hwb]; exact (box3 _ _ _ _ _ _ _).1
  have hc1 : wb.cell? ⟨w.heap.size + 1, 0, none⟩ = some (str o) := by rw [hwb]; exact (box3 _ _ _ _ _ _ _).2.1
  have hf := hid (find_nil2 (h.below hbb) o 57 #[ptr (w.heap.size + 2), ptr w.heap.size, ptr (w.heap.size + 1)])
  have hl := hid fun w1 (hb : Below wb.heap.size wb w1) => And.intro (hbb.trans (hb.mono hbb.size)) (And.intro (kept_box hb hc0) (kept_box hb hc1))
  have hc := hid fun w1 => count_no w1 (.pointer p) 1 (by decide)
  have hwb' := hid hwb
  rw [hwb] at hf
  unfold ptr at hf
  unfold str at hf hl ⊢
  unfold str at hwb'
  have hmf := mkf
  clear h hwb hbb hc0 hc1
  go_enter Try.func27, Try.ntmps27
  go_wp2
  go_region_held (fun w' => w'.cell? ⟨w.heap.size, 0, none⟩ = some (.pointer p) ∧ w'.cell? ⟨w.heap.size + 1, 0, none⟩ = some (.string ⟨o.toArray⟩)) (go_keep) (first | (go_at_call 40; refine hf.out.mono ?_; rintro e w1 ⟨rfl, hb⟩; rw [← hwb'.out] at hb; obtain ⟨hb1, hx0, hx1⟩ := hl.out w1 hb; replace hb1 := hid hb1; clear hb) | (go_at_call 46; refine (hc.out _).mono ?_; rintro e w2 ⟨rfl, rfl⟩))
  all_goals (go_wp2; go_ret; exact ⟨rfl, hb1.out⟩)
set_option maxHeartbeats 1600000 in
theorem append_nil {w : World} {p : Option Addr} (h : NilS w p) (n : List UInt8) (a : Option Addr) (m c : Nat) : Calls Try.prog 18 #[.pointer p, str n, .slice a m c] w fun e w' => e = .returned (.int .i64 1) ∧ Below w.heap.size w w' := by
  obtain ⟨wb, hwb⟩ : ∃ wb, wb = (((w.alloc (.cells #[.pointer p] 24)).alloc (.cells #[str n] 9)).alloc (.cells #[.slice a m c] 30)).drew := ⟨_, rfl⟩
  have hbb : Below w.heap.size w wb := by rw [hwb]; exact undrew' ((((Below.refl _ _).alloc (Nat.le_refl _) _).alloc (by simp) _).alloc (by simp; omega) _)
  have hc0 : wb.cell? ⟨w.heap.size, 0, none⟩ = some (.pointer p) := by rw [hwb]; exact (box3 _ _ _ _ _ _ _).1
  have hc1 : wb.cell? ⟨w.heap.size + 1, 0, none⟩ = some (str n) := by rw [hwb]; exact (box3 _ _ _ _ _ _ _).2.1
  have hf := hid (look_nil wb n (.pointer p) 48 #[ptr (w.heap.size + 1), ptr (w.heap.size + 2), ptr w.heap.size] (h.below hbb).now)
  have hc := hid fun w1 => count_no w1 (.pointer p) 1 (by decide)
  have hl := hid (And.intro hbb (And.intro hc0 hc1))
  have hwb' := hid hwb
  rw [hwb] at hf
  unfold ptr at hf
  unfold str at hf hl ⊢
  unfold str at hwb'
  have hmf := mkf
  clear h hwb hbb hc0 hc1
  go_enter Try.func18, Try.ntmps18
  go_wp2
  go_region_held (fun w' => w'.cell? ⟨w.heap.size, 0, none⟩ = some (.pointer p) ∧ w'.cell? ⟨w.heap.size + 1, 0, none⟩ = some (.string ⟨n.toArray⟩)) (go_keep) (first | (go_at_call 47; refine hf.out.mono ?_; rintro e w1 ⟨rfl, hw⟩; rw [← hwb'.out] at hw; obtain ⟨hb1, hx0, hx1⟩ := hl.out; rw [← hw] at hb1 hx0 hx1; replace hb1 := hid hb1; clear hw) | (go_at_call 46; refine (hc.out _).mono ?_; rintro e w2 ⟨rfl, rfl⟩))
  all_goals (go_wp2; go_ret; exact ⟨rfl, hb1.out⟩)
end Go.Proofs.Ytinnegkkfaaceaa
