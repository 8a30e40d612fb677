/- Contract of inOrder: one step behind the other, till one fails. -/
import Derived.Test.YtihgikekkgoddaaGreatDoorZL1
import Derived.Shelf.Abstract
namespace Go.Proofs.YtihgikekkgoddaaGreatDoor
open Go.RowKit Go.Shelf Sto

set_option maxRecDepth 100000 in
set_option maxHeartbeats 4000000 in
theorem inOrder_any (w : World) (b n c : Nat) (hn : n ≤ c) (hc : c ≤ 1000) (k : Nat → Nat) (lb : Nat → Array Value) (ek : ∀ i, i < n → Enters Tryz.prog (k i)) (I : Nat → World → Prop) (X : Int → World → Prop)
    (hcell : ∀ i W, i < n → I i W → W.cell? ⟨b, i, none⟩ = some (.func (.func (k i)) #[] (lb i)))
    (hstep : ∀ i W, i < n → I i W → Calls Tryz.prog (k i) (lb i) W fun e W' => ∃ r : Int, e = .returned (.int .i64 r) ∧ ((r = 0 ∧ I (i + 1) W') ∨ (r ≠ 0 ∧ X r W')))
    (h0 : I 0 w) :
    Calls Tryz.prog 24 #[.slice (some ⟨b, 0, none⟩) n c] w fun e w' => ∃ r : Int, e = .returned (.int .i64 r) ∧ ((r = 0 ∧ I n w') ∨ (r ≠ 0 ∧ X r w')) := by
  go_enter Tryz.func24, Tryz.ntmps24
  go_wp2
  go_loopw [8] (fun iv wr => ∃ (i : Nat), i ≤ n ∧ iv = .int .i64 (i : Int) ∧ I i wr) (fun iv _ => n - (intOf iv).toNat)
  case atStart => exact ⟨0, Nat.zero_le _, rfl, h0⟩
  case round =>
    obtain ⟨i, hi, rfl, hI⟩ := hrel
    by_cases hlt : i < n
    · have hcl := hcell i wr hlt hI
      have hst := hid (hstep i wr hlt hI)
      have ek' : ∀ (args : Array Value) (w : World), (callFunc (k i) args).run Tryz.prog w = .ok (.enter (k i) args) w := ek i hlt
      have hit : decide ((i : Int) < (n : Int)) = true := by simp; omega
      have hi9 : (i : Int) + 1 ≤ 9223372036854775807 := by omega
      have hic : i < c := by omega
      have hcl := hcl
      clear hcell hstep ek hc hi h0
      generalize k i = ki at *
      generalize lb i = li at *
      go_wp2_with fail
      refine hst.out.mono ?_
      rintro e w1 ⟨r, rfl, hor⟩
      replace hor := hid hor
      clear hst hcl
      rcases hor.out with ⟨rfl, h1⟩ | ⟨h1, h2⟩
      · go_wp2
        exact ⟨⟨i + 1, hlt, rfl, h1⟩, by simp [intOf]; omega⟩
      · have h0' : (r == 0) = false := by simpa using h1
        replace h2 := hid h2
        clear hi9 hit hic hor
        replace h1 := hid h1
        go_wp2
        go_ret
        exact ⟨r, rfl, .inr ⟨h1.out, h2.out⟩⟩
    · obtain rfl : i = n := by omega
      go_wp2
      go_ret
      exact ⟨0, rfl, .inl ⟨rfl, hI⟩⟩
end Go.Proofs.YtihgikekkgoddaaGreatDoor
