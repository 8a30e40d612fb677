/- A log that nobody made, and one over no store. -/
import Derived.Test.YtihgikekkgoddaaGreatDoorZLZ
import Derived.Test.YtihgikekkgoddaaGreatDoorZSe
namespace Go.Proofs.YtihgikekkgoddaaGreatDoor
open Go.RowKit Go.Shelf Sto

set_option maxHeartbeats 400000 in
theorem answers_nil {w : World} {p : Option Addr} (h : NilS w p) : Calls Tryz.prog 22 #[.pointer p] w fun e w' => e = .returned (.int .i64 1) ∧ Below w.heap.size w w' := by
  have hz := hid (size_nil h [])
  clear h
  unfold str at hz
  go_enter Tryz.func22, Tryz.ntmps22
  go_wp2_with fail
  refine hz.out.mono ?_
  rintro e w1 ⟨rfl, hb⟩
  replace hb := hid hb
  go_wp2
  go_ret
  exact ⟨rfl, hb.out⟩
set_option maxRecDepth 100000 in
set_option maxHeartbeats 2000000 in
theorem open_nil {w : World} {p : Option Addr} (h : NilS w p) (s : ByteArray) : Calls Tryz.prog 7 #[.pointer p, .string s] w fun e w' => e = .returned (.tuple #[.pointer none, .slice none 0 0, .slice none 0 0, .int .i64 1]) ∧ Below w.heap.size w w' := by
  obtain ⟨V, hV⟩ : ∃ V, ((w.alloc (.cells #[.pointer none] 24)).alloc (.cells #[.slice none 0 0] 22)).alloc (.cells #[.slice none 0 0] 25) = V := ⟨_, rfl⟩
  have hal : Below w.heap.size w V := by rw [← hV]; exact low3 w _ _ _
  have v0 : Boxed V w.heap.size 24 (.pointer none) := by rw [← hV]; exact ((Boxed.new w _ _).alloc _).alloc _
  have v1 : Boxed V (w.heap.size + 1) 22 (.slice none 0 0) := by
    rw [← hV]
    have := (Boxed.new (w.alloc (.cells #[.pointer none] 24)) 22 (.slice none 0 0)).alloc (.cells #[.slice none 0 0] 25)
    rwa [World.size_alloc] at this
  have v2 : Boxed V (w.heap.size + 2) 25 (.slice none 0 0) := by
    rw [← hV]
    have := Boxed.new ((w.alloc (.cells #[.pointer none] 24)).alloc (.cells #[.slice none 0 0] 22)) 25 (.slice none 0 0)
    rwa [World.size_alloc, World.size_alloc] at this
  have han := hid (answers_nil (h.below hal))
  have HV := hid (And.intro v0 (And.intro v1 v2))
  have HAL := hid hal
  clear h v0 v1 v2 hal
  go_enter Tryz.func7, Tryz.ntmps7
  go_wp2_with fail
  refine han.out.mono ?_
  rintro e w1 ⟨rfl, hb1⟩
  have x0 : Boxed w1 w.heap.size 24 (.pointer none) := (hb1.block _ HV.out.1.lt).trans HV.out.1
  have x1 : Boxed w1 (w.heap.size + 1) 22 (.slice none 0 0) := (hb1.block _ HV.out.2.1.lt).trans HV.out.2.1
  have x2 : Boxed w1 (w.heap.size + 2) 25 (.slice none 0 0) := (hb1.block _ HV.out.2.2.lt).trans HV.out.2.2
  have c0 := x0.cell
  have f0 := x0.frozen
  have c1 := x1.cell
  have f1 := x1.frozen
  have c2 : w1.cell? ⟨w.heap.size + 1 + 1, 0, none⟩ = some (.slice none 0 0) := x2.cell
  have f2 : w1.frozen? ⟨w.heap.size + 1 + 1, 0, none⟩ = false := x2.frozen
  have fin : Hid (∀ W', W' = (((w1.setCell ⟨w.heap.size, 0, none⟩ (.pointer none)).setCell ⟨w.heap.size + 1, 0, none⟩ (.slice none 0 0)).setCell ⟨w.heap.size + 1 + 1, 0, none⟩ (.slice none 0 0)) → Below w.heap.size w W' ∧ W'.cell? ⟨w.heap.size, 0, none⟩ = some (.pointer none) ∧ W'.cell? ⟨w.heap.size + 1, 0, none⟩ = some (.slice none 0 0) ∧ W'.cell? ⟨w.heap.size + 1 + 1, 0, none⟩ = some (.slice none 0 0)) := by
    intro W' e
    have a0 := x0.set (.pointer none)
    have a1 : Boxed (w1.setCell ⟨w.heap.size, 0, none⟩ (.pointer none)) (w.heap.size + 1) 22 _ := (heap_set _ _ _ _ _ (by omega)).trans x1
    have a2 : Boxed (w1.setCell ⟨w.heap.size, 0, none⟩ (.pointer none)) (w.heap.size + 2) 25 _ := (heap_set _ _ _ _ _ (by omega)).trans x2
    have d0 : Boxed ((w1.setCell ⟨w.heap.size, 0, none⟩ (.pointer none)).setCell ⟨w.heap.size + 1, 0, none⟩ (.slice none 0 0)) w.heap.size 24 _ := (heap_set _ _ _ _ _ (by omega)).trans a0
    have d1 := a1.set (.slice none 0 0)
    have d2 : Boxed ((w1.setCell ⟨w.heap.size, 0, none⟩ (.pointer none)).setCell ⟨w.heap.size + 1, 0, none⟩ (.slice none 0 0)) (w.heap.size + 2) 25 _ := (heap_set _ _ _ _ _ (by omega)).trans a2
    have l0 : Below w.heap.size w w1 := HAL.out.trans (hb1.mono HAL.out.size)
    rw [e]
    refine ⟨((l0.setCell (p := ⟨w.heap.size, 0, none⟩) (Nat.le_refl _) _).setCell (p := ⟨w.heap.size + 1, 0, none⟩) (by show w.heap.size ≤ w.heap.size + 1; omega) _).setCell (p := ⟨w.heap.size + 1 + 1, 0, none⟩) (by show w.heap.size ≤ w.heap.size + 1 + 1; omega) _, ?_, ?_, ?_⟩
    · exact Boxed.cell (t := 24) ((heap_set _ _ _ _ _ (by omega)).trans d0)
    · exact Boxed.cell (t := 22) ((heap_set _ _ _ _ _ (by omega)).trans d1)
    · exact Boxed.cell (t := 25) (d2.set _)
  clear hb1 x0 x1 x2 HV HAL han
  go_wp2
  obtain ⟨q0, q1, q2, q3⟩ := fin.out _ rfl
  refine bodyPost_ret (v := .tuple #[.pointer none, .slice none 0 0, .slice none 0 0, .int .i64 1]) ?_ rfl ⟨rfl, q0⟩
  simp [results, Tryz.f7, go_sem, q1, q2, q3]
/-- no log. -/
def NilL (w : World) (p : Option Addr) : Prop := p = none ∨ ∃ b, p = some ⟨b, 0, none⟩ ∧ w.cell? ⟨b, 0, none⟩ = some (.pointer none)
set_option maxHeartbeats 400000 in
theorem lmade_no {w : World} {p : Option Addr} (h : NilL w p) : Calls Tryz.prog 42 #[.pointer p] w fun e w' => e = .returned (.bool false) ∧ w' = w := by
  rcases h with rfl | ⟨b, rfl, hc⟩
  · go_enter Tryz.func42, Tryz.ntmps42
    go_wp2
    go_ret
    exact ⟨rfl, rfl⟩
  · go_enter Tryz.func42, Tryz.ntmps42
    go_wp2
    go_ret
    exact ⟨rfl, rfl⟩
set_option maxHeartbeats 400000 in
theorem lmay_no {w : World} {p : Option Addr} (h : NilL w p) : Calls Tryz.prog 38 #[.pointer p] w fun e w' => e = .returned (.int .i64 1) ∧ w' = w := by
  have hm := hid (lmade_no h)
  clear h
  go_enter Tryz.func38, Tryz.ntmps38
  go_wp2_with (go_at_call 42; refine hm.out.mono ?_; rintro e w' ⟨rfl, rfl⟩)
  go_ret
  exact ⟨rfl, rfl⟩
set_option maxHeartbeats 400000 in
theorem lenc_no {w : World} {p : Option Addr} (h : NilL w p) (a : Option Addr) (n c : Nat) : Calls Tryz.prog 35 #[.pointer p, .slice a n c] w fun e w' => e = .returned (.tuple #[.slice none 0 0, .int .i64 1]) ∧ w' = w := by
  have hm := hid (lmay_no h)
  clear h
  go_enter Tryz.func35, Tryz.ntmps35
  go_wp2_with (go_at_call 38; refine hm.out.mono ?_; rintro e w' ⟨rfl, rfl⟩)
  go_ret2
  exact ⟨rfl, rfl⟩
set_option maxHeartbeats 400000 in
theorem lapp_no {w : World} {p : Option Addr} (h : NilL w p) (a : Option Addr) (n c : Nat) : Calls Tryz.prog 8 #[.pointer p, .slice a n c] w fun e w' => e = .returned (.int .i64 1) ∧ w' = w := by
  have hm := hid (lenc_no h a n c)
  clear h
  go_enter Tryz.func8, Tryz.ntmps8
  go_wp2_with (go_at_call 35; refine hm.out.mono ?_; rintro e w' ⟨rfl, rfl⟩)
  go_ret
  exact ⟨rfl, rfl⟩
set_option maxHeartbeats 400000 in
theorem lchk_no {w : World} {p : Option Addr} (h : NilL w p) (a : Option Addr) (n c : Nat) : Calls Tryz.prog 10 #[.pointer p, .slice a n c] w fun e w' => e = .returned (.int .i64 1) ∧ w' = w := by
  have hm := hid (lenc_no h a n c)
  clear h
  go_enter Tryz.func10, Tryz.ntmps10
  go_wp2_with (go_at_call 35; refine hm.out.mono ?_; rintro e w' ⟨rfl, rfl⟩)
  go_ret
  exact ⟨rfl, rfl⟩
set_option maxHeartbeats 400000 in
theorem lsyn_no {w : World} {p : Option Addr} (h : NilL w p) : Calls Tryz.prog 9 #[.pointer p] w fun e w' => e = .returned (.int .i64 1) ∧ w' = w := by
  have hm := hid (lmay_no h)
  clear h
  go_enter Tryz.func9, Tryz.ntmps9
  go_wp2_with (go_at_call 38; refine hm.out.mono ?_; rintro e w' ⟨rfl, rfl⟩)
  go_ret
  exact ⟨rfl, rfl⟩
set_option maxHeartbeats 400000 in
theorem lnum_no {w : World} {p : Option Addr} (h : NilL w p) : Calls Tryz.prog 11 #[.pointer p] w fun e w' => e = .returned (.int .i64 0) ∧ w' = w := by
  have hm := hid (lmade_no h)
  clear h
  go_enter Tryz.func11, Tryz.ntmps11
  go_wp2_with (go_at_call 42; refine hm.out.mono ?_; rintro e w' ⟨rfl, rfl⟩)
  go_ret
  exact ⟨rfl, rfl⟩
set_option maxHeartbeats 400000 in
theorem lcnt_no {w : World} {p : Option Addr} (h : NilL w p) : Calls Tryz.prog 12 #[.pointer p] w fun e w' => e = .returned (.int .i64 0) ∧ w' = w := by
  have hm := hid (lmade_no h)
  clear h
  go_enter Tryz.func12, Tryz.ntmps12
  go_wp2_with (go_at_call 42; refine hm.out.mono ?_; rintro e w' ⟨rfl, rfl⟩)
  go_ret
  exact ⟨rfl, rfl⟩
end Go.Proofs.YtihgikekkgoddaaGreatDoor
