/- Contracts of the calls on a store that nobody made: each tells ErrNil, or nothing. -/
import Derived.Test.YtinnegkkfaaceaaOpen2
namespace Go.Proofs.Ytinnegkkfaaceaa
open Go.RowKit Go.Maps Go.MapKept Go.Shelf

/-- a store that nobody made. -/
def NilS (w : World) (p : Option Addr) : Prop := ∀ w1, Below w.heap.size w w1 → Calls Try.prog 51 #[.pointer p] w1 fun e w' => e = .returned (.bool false) ∧ w' = w1
theorem NilS.below {w w' : World} {p : Option Addr} (h : NilS w p) (hb : Below w.heap.size w w') : NilS w' p := fun w1 h1 => h w1 (hb.trans (h1.mono hb.size))
theorem NilS.now {w : World} {p : Option Addr} (h : NilS w p) : Calls Try.prog 51 #[.pointer p] w fun e w' => e = .returned (.bool false) ∧ w' = w := h w (Below.refl _ _)
theorem nilS_none (w : World) : NilS w none := fun w1 _ => made_nil w1
theorem nilS_zero {w : World} {b : Nat} (h : w.cell? ⟨b, 0, none⟩ = some (.map none)) : NilS w (some ⟨b, 0, none⟩) := fun w1 hb => made_no w1 _ ((hb.cell (p := ⟨b, 0, none⟩) (World.block_lt_of_cell? w ⟨b, 0, none⟩ h)).trans h)
set_option maxHeartbeats 400000 in
theorem dead_nil {w : World} {p : Option Addr} (h : NilS w p) : Calls Try.prog 24 #[.pointer p] w fun e w' => e = .returned (.bool false) ∧ w' = w := by
  have hm := hid h.now
  clear h
  go_enter Try.func24, Try.ntmps24
  go_wp2_with (go_at_call 51; refine hm.out.mono ?_; rintro e w' ⟨rfl, rfl⟩)
  go_ret
  exact ⟨rfl, rfl⟩
set_option maxHeartbeats 400000 in
theorem acts_nil {w : World} {p : Option Addr} (h : NilS w p) : Calls Try.prog 23 #[.pointer p] w fun e w' => e = .returned (.int .i64 0) ∧ w' = w := by
  have hm := hid h.now
  clear h
  go_enter Try.func23, Try.ntmps23
  go_wp2_with (go_at_call 51; refine hm.out.mono ?_; rintro e w' ⟨rfl, rfl⟩)
  go_ret
  exact ⟨rfl, rfl⟩
set_option maxHeartbeats 400000 in
theorem names_nil {w : World} {p : Option Addr} (h : NilS w p) : Calls Try.prog 19 #[.pointer p] w fun e w' => e = .returned (.slice none 0 0) ∧ w' = w := by
  have hm := hid h.now
  clear h
  go_enter Try.func19, Try.ntmps19
  go_wp2_with (go_at_call 51; refine hm.out.mono ?_; rintro e w' ⟨rfl, rfl⟩)
  go_ret
  exact ⟨rfl, rfl⟩
set_option maxHeartbeats 400000 in
theorem power_nil {w : World} {p : Option Addr} (h : NilS w p) (x : Int) : Calls Try.prog 21 #[.pointer p, .int .i64 x] w fun e w' => e = .returned (.tuple #[]) ∧ w' = w := by
  have hm := hid h.now
  clear h
  go_enter Try.func21, Try.ntmps21
  go_wp2_with (go_at_call 51; refine hm.out.mono ?_; rintro e w' ⟨rfl, rfl⟩)
  go_end0
  exact ⟨rfl, rfl⟩
set_option maxHeartbeats 400000 in
theorem crash_nil {w : World} {p : Option Addr} (h : NilS w p) (a : Option Addr) (n c : Nat) : Calls Try.prog 22 #[.pointer p, .slice a n c] w fun e w' => e = .returned (.tuple #[]) ∧ w' = w := by
  have hm := hid h.now
  clear h
  go_enter Try.func22, Try.ntmps22
  go_wp2_with (go_at_call 51; refine hm.out.mono ?_; rintro e w' ⟨rfl, rfl⟩)
  first | go_end0 | refine bodyPost_ret (results_none rfl _ _ _) rfl ?_
  exact ⟨rfl, rfl⟩
set_option maxHeartbeats 1000000 in
theorem read_of1 {v : Value} (w : World) (n : List UInt8)
    (hc : Calls Try.prog 40 #[v, str n, .func (.func 41) #[] #[ptr w.heap.size]] (w.alloc (.cells #[.slice none 0 0] 30)) fun e w' => e = .returned (.int .i64 1) ∧ Below w.heap.size w w' ∧ w'.cell? ⟨w.heap.size, 0, none⟩ = some (.slice none 0 0)) :
    Calls Try.prog 15 #[v, str n] w fun e w' => e = .returned (.tuple #[.slice none 0 0, .int .i64 1]) ∧ Below w.heap.size w w' := by
  replace hc := hid hc
  unfold ptr str at hc
  unfold str
  have hmf := mkf
  go_enter Try.func15, Try.ntmps15
  go_wp2_with (go_at_call 40; refine hc.out.mono ?_; rintro e w' ⟨rfl, hq, hx⟩; replace hq := hid hq)
  go_ret2
  exact ⟨rfl, hq.out⟩
theorem read_nil {w : World} {p : Option Addr} (h : NilS w p) (n : List UInt8) : Calls Try.prog 15 #[.pointer p, str n] w fun e w' => e = .returned (.tuple #[.slice none 0 0, .int .i64 1]) ∧ Below w.heap.size w w' := by
  have hb := alloc_below w (.cells #[.slice none 0 0] 30)
  have b0 : (w.alloc (.cells #[.slice none 0 0] 30)).heap[w.heap.size]? = some (.cells #[.slice none 0 0] 30) := (MapKept.heap_alloc _ _).1
  have hs : (w.alloc (.cells #[.slice none 0 0] 30)).heap.size = w.heap.size + 1 := by simp
  have hbx := boxed_below (w.alloc (.cells #[.slice none 0 0] 30)) 41 #[ptr w.heap.size]
  refine (read_of1 w n ?_).mono ?_
  · refine (find_nil _ n _ _ (h.below hb)).mono ?_
    rintro e w' ⟨rfl, rfl⟩
    refine ⟨rfl, hb.trans (hbx.mono (by omega)), ?_⟩
    have b1 := (hbx.block w.heap.size (by omega)).trans b0
    rw [cell_of b1]; rfl
  · rintro e w' h; exact h
theorem tell_nil {w : World} {p : Option Addr} (h : NilS w p) (n : List UInt8) (k : Nat) : Calls Try.prog 43 #[.pointer p, str n, .func (.func k) #[] #[]] w fun e w' => e = .returned (.tuple #[.int .i64 0, .int .i64 1]) ∧ Below w.heap.size w w' := by
  have hb := told_below w k
  have e1 : w.heap.size + 1 = (w.alloc (.cells #[.func (.func k) #[] #[]] 79)).heap.size := by simp
  have b1 : (told w k).heap[w.heap.size + 1]? = some (.cells #[.int .i64 0] 3) := by rw [e1]; exact (MapKept.heap_alloc _ _).1
  have hs : (told w k).heap.size = w.heap.size + 2 := by simp [told]
  refine tell_of w n k 0 1 ?_
  refine (find_nil _ n _ _ (h.below hb)).mono ?_
  rintro e w' ⟨rfl, rfl⟩
  have hbx := boxed_below (told w k) 63 #[ptr w.heap.size, ptr (w.heap.size + 1)]
  refine ⟨rfl, hb.trans (hbx.mono (by omega)), ?_⟩
  have b2 := (hbx.block (w.heap.size + 1) (by omega)).trans b1
  rw [cell_of b2]; rfl
end Go.Proofs.Ytinnegkkfaaceaa
