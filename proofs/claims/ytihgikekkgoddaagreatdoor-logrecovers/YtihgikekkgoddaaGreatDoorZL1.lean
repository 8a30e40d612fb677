/- How a log lies in memory; contracts of its small functions: made, may, Number, Count, file. -/
import Derived.Test.YtihgikekkgoddaaGreatDoorZSa
import Derived.Test.YtihgikekkgoddaaGreatDoorZSb
import Derived.Test.YtihgikekkgoddaaGreatDoorZLP
namespace Go.Proofs.YtihgikekkgoddaaGreatDoor
open Go.RowKit Go.Shelf Sto

/-- a log: its store's block, its prefix, its number, how many records, whether it is broken. -/
structure Lg where
  sb : Nat
  p : List UInt8
  n : Nat
  c : Nat
  br : Bool
def LogAt (w : World) (lb : Nat) (x : Lg) : Prop := w.heap[lb]? = some (.cells #[ptr x.sb, str x.p, .int .i64 (x.n : Int), .int .i64 (x.c : Int), .bool x.br] 33)
theorem LogAt.lt {w : World} {lb : Nat} {x : Lg} (h : LogAt w lb x) : lb < w.heap.size := lt_of_block h
theorem LogAt.below {w w' : World} {lb : Nat} {x : Lg} (h : LogAt w lb x) (hb : Below w.heap.size w w') : LogAt w' lb x := (hb.block _ h.lt).trans h
theorem LogAt.keep {w w' : World} {lb : Nat} {x : Lg} (h : LogAt w lb x) (hb : w'.heap[lb]? = w.heap[lb]?) : LogAt w' lb x := hb.trans h
theorem LogAt.cells {w : World} {lb : Nat} {x : Lg} (h : LogAt w lb x) : w.cell? ⟨lb, 0, none⟩ = some (ptr x.sb) ∧ w.cell? ⟨lb, 1, none⟩ = some (str x.p) ∧ w.cell? ⟨lb, 2, none⟩ = some (.int .i64 (x.n : Int)) ∧ w.cell? ⟨lb, 3, none⟩ = some (.int .i64 (x.c : Int)) ∧ w.cell? ⟨lb, 4, none⟩ = some (.bool x.br) := by
  refine ⟨?_, ?_, ?_, ?_, ?_⟩ <;> (rw [cell_of h]; rfl)

set_option maxHeartbeats 400000 in
theorem lmade_yes (w : World) {lb : Nat} {x : Lg} (h : LogAt w lb x) : Calls Tryz.prog 42 #[ptr lb] w fun e w' => e = .returned (.bool true) ∧ w' = w := by
  obtain ⟨c0, c1, c2, c3, c4⟩ := h.cells
  unfold ptr at *
  clear h
  go_enter Tryz.func42, Tryz.ntmps42
  go_wp2
  go_ret
  exact ⟨rfl, rfl⟩
set_option maxHeartbeats 400000 in
theorem lmay_any (w : World) {lb : Nat} {x : Lg} (h : LogAt w lb x) : Calls Tryz.prog 38 #[ptr lb] w fun e w' => e = .returned (.int .i64 (if x.br then 50 else 0)) ∧ w' = w := by
  have hm := hid (lmade_yes w h)
  obtain ⟨c0, c1, c2, c3, c4⟩ := h.cells
  obtain ⟨sb, p, n, c, br⟩ := x
  unfold ptr at *
  clear h
  go_enter Tryz.func38, Tryz.ntmps38
  cases br
  · go_wp2_with (go_at_call 42; refine hm.out.mono ?_; rintro e w' ⟨rfl, rfl⟩)
    go_ret
    exact ⟨rfl, rfl⟩
  · go_wp2_with (go_at_call 42; refine hm.out.mono ?_; rintro e w' ⟨rfl, rfl⟩)
    go_ret
    exact ⟨rfl, rfl⟩
set_option maxHeartbeats 400000 in
theorem lnumber (w : World) {lb : Nat} {x : Lg} (h : LogAt w lb x) : Calls Tryz.prog 11 #[ptr lb] w fun e w' => e = .returned (.int .i64 (x.n : Int)) ∧ w' = w := by
  have hm := hid (lmade_yes w h)
  obtain ⟨c0, c1, c2, c3, c4⟩ := h.cells
  unfold ptr at *
  clear h
  go_enter Tryz.func11, Tryz.ntmps11
  go_wp2_with (go_at_call 42; refine hm.out.mono ?_; rintro e w' ⟨rfl, rfl⟩)
  go_ret
  exact ⟨rfl, rfl⟩
set_option maxHeartbeats 400000 in
theorem lcount (w : World) {lb : Nat} {x : Lg} (h : LogAt w lb x) : Calls Tryz.prog 12 #[ptr lb] w fun e w' => e = .returned (.int .i64 (x.c : Int)) ∧ w' = w := by
  have hm := hid (lmade_yes w h)
  obtain ⟨c0, c1, c2, c3, c4⟩ := h.cells
  unfold ptr at *
  clear h
  go_enter Tryz.func12, Tryz.ntmps12
  go_wp2_with (go_at_call 42; refine hm.out.mono ?_; rintro e w' ⟨rfl, rfl⟩)
  go_ret
  exact ⟨rfl, rfl⟩
theorem itoa_any (w : World) (n : Nat) (h : n < 100) : Calls Tryz.prog 65 #[.int .i64 (n : Int)] w fun e w' => e = .returned (.string ⟨(dg n).toArray⟩) ∧ w' = w := by
  have := Tryz.strconv_Itoa_small n h w
  rwa [dg_dec h] at this
theorem bytes_app (a b : List UInt8) : (⟨a.toArray⟩ : ByteArray) ++ ⟨b.toArray⟩ = ⟨(a ++ b).toArray⟩ := by
  apply ByteArray.ext
  simp
set_option maxHeartbeats 400000 in
theorem file_any (w : World) {lb : Nat} {x : Lg} (h : LogAt w lb x) (k : List UInt8) (n : Nat) (hn : n < 100) (hp : x.p.length ≤ 16) (hk : k.length ≤ 5) : Calls Tryz.prog 37 #[ptr lb, str k, .int .i64 (n : Int)] w fun e w' => e = .returned (str (x.p ++ (k ++ dg n))) ∧ Below w.heap.size w w' := by
  obtain ⟨c0, c1, c2, c3, c4⟩ := h.cells
  have hi := hid (fun W => itoa_any W n hn)
  have hd := dg_len n
  have fin : Hid (str (x.p ++ (k ++ dg n)) = .string (⟨x.p.toArray⟩ ++ ⟨k.toArray⟩ ++ ⟨(dg n).toArray⟩)) := by
    show _ = _
    rw [bytes_app, bytes_app, List.append_assoc]; rfl
  rw [fin.out]
  unfold ptr str at *
  clear h fin
  go_enter Tryz.func37, Tryz.ntmps37
  go_wp2_with fail
  go_region_with (go_at_call 65; refine (hi.out _).mono ?_; rintro e w' ⟨rfl, rfl⟩)
  all_goals
    go_wp2
    go_ret
    exact ⟨rfl, (Below.refl _ _).drew⟩
end Go.Proofs.YtihgikekkgoddaaGreatDoor
