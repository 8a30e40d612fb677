/- Plain mathematics of FilesEnds, and of numbers that are taken modulo a small one. -/
import Derived.Test.YtinnegkkfaaceaaAwake
namespace Go.Proofs.Ytinnegkkfaaceaa
open Go.RowKit

theorem mod_small (a : Int) (m : Nat) (hm : 0 < m) (hm2 : m ≤ 1000000000) : ∃ n : Nat, n < m ∧ wrap64 ((IntKind.u64.wrap a).tmod m) = (n : Int) := by
  have h0 : 0 ≤ IntKind.u64.wrap a := by simp only [IntKind.wrap]; exact Int.emod_nonneg _ (by decide)
  have h1 : (IntKind.u64.wrap a).tmod m = IntKind.u64.wrap a % m := Int.tmod_eq_emod_of_nonneg h0
  refine ⟨(IntKind.u64.wrap a % m).toNat, ?_, ?_⟩
  · have := Int.emod_lt_of_pos (IntKind.u64.wrap a) (show (0 : Int) < m by omega)
    have := Int.emod_nonneg (IntKind.u64.wrap a) (show (m : Int) ≠ 0 by omega)
    omega
  · rw [h1]
    have := Int.emod_lt_of_pos (IntKind.u64.wrap a) (show (0 : Int) < m by omega)
    have := Int.emod_nonneg (IntKind.u64.wrap a) (show (m : Int) ≠ 0 by omega)
    unfold wrap64
    omega
namespace filesEnds
/-- one file, a, of these bytes (none: not there), so many of them synced; so many acts, of at most A. -/
def E (bs : List UInt8) (safe done A : Nat) : St := ⟨if bs.isEmpty then [] else [⟨[97], bs, safe⟩], done, (A : Int) - done⟩
theorem may_a : mayB [97] = true := rfl
theorem app_yes (bs : List UInt8) (safe done A : Nat) (c : UInt8) (hd : done < A) (hb : bs.length < 1000) (hs : safe ≤ bs.length) : (E bs safe done A).append [97] [c] = (0, E (bs ++ [c]) safe (done + 1) A) := by
  unfold St.append
  rw [if_neg (show ¬ (E bs safe done A).left = 0 by show ¬ (A : Int) - done = 0; omega), if_neg (show ¬ mayB [97] = false by decide)]
  have hl : (if (0 : Int) < (A : Int) - done then (A : Int) - done - 1 else (A : Int) - done) = (A : Int) - ((done + 1 : Nat) : Int) := by rw [if_pos (by omega)]; omega
  cases bs with
  | nil =>
    obtain rfl : safe = 0 := by simpa using hs
    show (0, (⟨_, done + 1, if (0 : Int) < (A : Int) - done then (A : Int) - done - 1 else (A : Int) - done⟩ : St)) = _
    rw [hl]; rfl
  | cons x r =>
    show (if 1048576 < (x :: r).length + [c].length then _ else (0, (⟨_, done + 1, if (0 : Int) < (A : Int) - done then (A : Int) - done - 1 else (A : Int) - done⟩ : St))) = _
    rw [if_neg (by simp at hb ⊢; omega), hl]; rfl
theorem app_no (bs : List UInt8) (safe done A : Nat) (c : UInt8) (hd : done = A) : (E bs safe done A).append [97] [c] = (30, E bs safe done A) := by
  unfold St.append
  rw [if_pos (show (E bs safe done A).left = 0 by show (A : Int) - done = 0; omega)]
theorem sync_yes (bs : List UInt8) (safe done A : Nat) (hd : done < A) (hb : bs ≠ []) : (E bs safe done A).sync [97] = (0, E bs bs.length (done + 1) A) := by
  unfold St.sync St.with
  rw [if_neg (show ¬ (E bs safe done A).left = 0 by show ¬ (A : Int) - done = 0; omega)]
  have hl : (if (0 : Int) < (A : Int) - done then (A : Int) - done - 1 else (A : Int) - done) = (A : Int) - ((done + 1 : Nat) : Int) := by rw [if_pos (by omega)]; omega
  cases bs with
  | nil => exact absurd rfl hb
  | cons x r =>
    show (0, (⟨_, done + 1, if (0 : Int) < (A : Int) - done then (A : Int) - done - 1 else (A : Int) - done⟩ : St)) = _
    rw [hl]; rfl
theorem sync_no (bs : List UInt8) (safe done A : Nat) (hd : done = A) : (E bs safe done A).sync [97] = (30, E bs safe done A) := by
  unfold St.sync St.with
  rw [if_pos (show (E bs safe done A).left = 0 by show (A : Int) - done = 0; omega)]
theorem read_no (bs : List UInt8) (safe done A : Nat) (hd : done = A) : (E bs safe done A).read [97] = ([], 30) := by
  unfold St.read
  rw [if_pos (show (E bs safe done A).left = 0 by show (A : Int) - done = 0; omega)]
theorem read_none (safe done A : Nat) (hd : done < A) : (E [] safe done A).read [97] = ([], 31) := by
  unfold St.read
  rw [if_neg (show ¬ (E [] safe done A).left = 0 by show ¬ (A : Int) - done = 0; omega)]; rfl
theorem read_some (bs : List UInt8) (safe done A : Nat) (hd : done < A) (hb : bs ≠ []) : (E bs safe done A).read [97] = (bs, 0) := by
  unfold St.read
  rw [if_neg (show ¬ (E bs safe done A).left = 0 by show ¬ (A : Int) - done = 0; omega)]
  cases bs with
  | nil => exact absurd rfl hb
  | cons x r => rfl
/-- behind the crash. -/
theorem after_none (safe done A : Nat) : ((E [] safe done A).crash []).read [97] = ([], 31) := rfl
theorem after_some (bs : List UInt8) (safe done A : Nat) (hs : safe ≤ bs.length) (hb : bs ≠ []) : ((E bs safe done A).crash []).read [97] = (bs.take safe, 0) := by
  cases bs with
  | nil => exact absurd rfl hb
  | cons x r =>
    show (St.read ⟨crashL [⟨[97], x :: r, safe⟩] [], done, -1⟩ [97]) = _
    show (St.read ⟨if (x :: r).length ≤ safe then [⟨[97], x :: r, safe⟩] else [⟨[97], (x :: r).take (safe + 0), safe + 0⟩], done, -1⟩ [97]) = _
    by_cases h : (x :: r).length ≤ safe
    · rw [if_pos h, List.take_of_length_le h]; rfl
    · rw [if_neg h]; rfl
theorem after_left (bs : List UInt8) (safe done A : Nat) : ((E bs safe done A).crash []).left = -1 := rfl
end filesEnds
end Go.Proofs.Ytinnegkkfaaceaa
