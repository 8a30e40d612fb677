/- Contracts of the document's own MayName, MayValue, Value, Same, Copy. -/
import Derived.Test.YthbdghbfhjimkabW3
namespace Go.Proofs.Ythbdghbfhjimkab
open Go.RowKit Go.Shelf

theorem vlc_no {c : UInt8} (h : (c.toNat : Int) < 32 ∨ 126 < (c.toNat : Int)) : vlc c = false := by
  unfold vlc
  simp
  omega
theorem vlc_ok {c : UInt8} (h : ¬ (c.toNat : Int) < 32 ∧ ¬ 126 < (c.toNat : Int)) : vlc c = true := by
  unfold vlc
  simp
  omega
theorem nmc_no {c : UInt8} (h : ¬ (97 ≤ (c.toNat : Int) ∧ (c.toNat : Int) ≤ 122) ∧ ¬ (48 ≤ (c.toNat : Int) ∧ (c.toNat : Int) ≤ 57) ∧ (c.toNat : Int) ≠ 95) : nmc c = false := by
  unfold nmc low
  simp
  omega
theorem nmc_ok {c : UInt8} (h : (97 ≤ (c.toNat : Int) ∧ (c.toNat : Int) ≤ 122) ∨ (48 ≤ (c.toNat : Int) ∧ (c.toNat : Int) ≤ 57) ∨ (c.toNat : Int) = 95) : nmc c = true := by
  unfold nmc low
  simp
  omega
theorem mayN_false {s : Tx} (h : mayB 16 nmc s = false ∨ low (s.headD 0) = false) : Hid (false = mayN s) := by
  unfold Hid mayN
  rcases h with h | h
  · rw [h]; rfl
  · rw [h]; simp
end Go.Proofs.Ythbdghbfhjimkab
