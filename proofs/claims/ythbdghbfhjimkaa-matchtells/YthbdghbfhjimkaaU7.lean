/- Contracts of takeSign, cutQuoted. -/
import Derived.Test.YthbdghbfhjimkaaU3
import Derived.Test.YthbdghbfhjimkaaU6
import Derived.Test.YthbdghbfhjimkaaV3
namespace Go.Proofs.Ythbdghbfhjimkaa
open Go.RowKit Go.Shelf

theorem cutp_any (s p : Tx) (w : World) : Calls Try.prog 37 #[str s, str p] w fun e w' => e = .returned (.tuple #[str (Lib.trimPrefix s p), .bool (Lib.hasPrefix s p)]) ∧ w' = w := by
  have := Try.strings_CutPrefix ⟨s.toArray⟩ ⟨p.toArray⟩ w
  unfold str
  simpa using this
theorem takeS_yes {s : Tx} {o : UInt8} (h : Lib.hasPrefix s (opS o) = true) (ho : o.toNat ≤ 2) : takeS s = some (o, Lib.trimPrefix s (opS o)) := by
  unfold Lib.trimPrefix
  rw [if_pos h]
  have hp : opS o <+: s := List.isPrefixOf_iff_prefix.1 h
  obtain ⟨r, rfl⟩ := hp
  rw [takeS_op ho, List.drop_left]
theorem takeS_no {s : Tx} (h0 : Lib.hasPrefix s (opS 0) = false) (h1 : Lib.hasPrefix s (opS 1) = false) (h2 : Lib.hasPrefix s (opS 2) = false) : takeS s = none := by
  cases h : takeS s with
  | none => rfl
  | some p =>
    obtain ⟨o, r⟩ := p
    obtain ⟨ho, e⟩ := takeS_inv h
    have hp : Lib.hasPrefix s (opS o) = true := List.isPrefixOf_iff_prefix.2 ⟨r, e.symm⟩
    rcases op_cases ho with rfl | rfl | rfl
    · rw [hp] at h0; cases h0
    · rw [hp] at h1; cases h1
    · rw [hp] at h2; cases h2
/-- what takeSign tells. -/
def signV : Option (UInt8 × Tx) → Value
  | none => .tuple #[opv 0, str [], .bool false]
  | some (o, r) => .tuple #[opv o, str r, .bool true]
theorem ops_at (w : World) : (Instr.index 86 (.agg #[.int .u8 0, .int .u8 1, .int .u8 2]) (.int .i64 0)).run Try.prog w = .ok (.int .u8 0) w ∧ (Instr.index 86 (.agg #[.int .u8 0, .int .u8 1, .int .u8 2]) (.int .i64 1)).run Try.prog w = .ok (.int .u8 1) w ∧ (Instr.index 86 (.agg #[.int .u8 0, .int .u8 1, .int .u8 2]) (.int .i64 2)).run Try.prog w = .ok (.int .u8 2) w := ⟨by kernel_rfl, by kernel_rfl, by kernel_rfl⟩
set_option maxRecDepth 100000 in
set_option maxHeartbeats 2000000 in
theorem takeSign_any (s : Tx) (w : World) : Calls Try.prog 55 #[str s] w fun e w' => e = .returned (signV (takeS s)) ∧ Below w.heap.size w w' := by
  have hsg := hid sign_any
  have hcp := hid (fun p => cutp_any s p)
  obtain ⟨i0, i1, i2⟩ := ops_at w
  unfold str at *
  go_enter Try.func55, Try.ntmps55
  go_wp2
  go_loop [10] (fun iv => ∃ j : Nat, j ≤ 3 ∧ iv = .int .i64 (j : Int) ∧ Hid (∀ i, i < j → Lib.hasPrefix s (opS (UInt8.ofNat i)) = false)) (fun iv => 3 - (intOf iv).toNat)
  case atStart => exact ⟨0, by omega, rfl, fun i hi => by omega⟩
  case round =>
    obtain ⟨j, hj, rfl, hp⟩ := hrel
    by_cases hlt : j < 3
    · rcases (by omega : j = 0 ∨ j = 1 ∨ j = 2) with rfl | rfl | rfl
      · have hcj := hid (hcp.out (opS 0))
        cases hpj : Lib.hasPrefix s (opS 0)
        · rw [hpj] at hcj
          have hp' : Hid (∀ i, i < 0 + 1 → Lib.hasPrefix s (opS (UInt8.ofNat i)) = false) := fun i hi => by
            by_cases e : i = 0
            · subst e; exact hpj
            · exact hp.out i (by omega)
          clear hp hcp hpj
          generalize Lib.trimPrefix s (opS 0) = r at *
          generalize hso : opS 0 = so at *
          have hsj := hid (hsg.out 0)
          rw [hso] at hsj
          clear hsg hso
          go_wp2_with (first | (go_at_call 29; refine (hsj.out _).mono ?_; rintro e w' ⟨rfl, hw'⟩; have hw2 := hw'.symm; subst hw2) | (go_at_call 37; refine (hcj.out _).mono ?_; rintro e w' ⟨rfl, hw'⟩; have hw2 := hw'.symm; subst hw2))
          exact ⟨⟨1, by omega, by go_num, hp'⟩, by simp [intOf]⟩
        · rw [hpj] at hcj
          have e : Hid (takeS s = some (0, Lib.trimPrefix s (opS 0))) := takeS_yes hpj (by decide)
          clear hp hcp hpj
          generalize Lib.trimPrefix s (opS 0) = r at *
          generalize hso : opS 0 = so at *
          have hsj := hid (hsg.out 0)
          rw [hso] at hsj
          clear hsg hso
          go_wp2_with (first | (go_at_call 29; refine (hsj.out _).mono ?_; rintro e w' ⟨rfl, hw'⟩; have hw2 := hw'.symm; subst hw2) | (go_at_call 37; refine (hcj.out _).mono ?_; rintro e w' ⟨rfl, hw'⟩; have hw2 := hw'.symm; subst hw2))
          go_ret3
          rw [e.out]
          exact ⟨rfl, Below.refl _ _⟩
      · have hcj := hid (hcp.out (opS 1))
        cases hpj : Lib.hasPrefix s (opS 1)
        · rw [hpj] at hcj
          have hp' : Hid (∀ i, i < 1 + 1 → Lib.hasPrefix s (opS (UInt8.ofNat i)) = false) := fun i hi => by
            by_cases e : i = 1
            · subst e; exact hpj
            · exact hp.out i (by omega)
          clear hp hcp hpj
          generalize Lib.trimPrefix s (opS 1) = r at *
          generalize hso : opS 1 = so at *
          have hsj := hid (hsg.out 1)
          rw [hso] at hsj
          clear hsg hso
          go_wp2_with (first | (go_at_call 29; refine (hsj.out _).mono ?_; rintro e w' ⟨rfl, hw'⟩; have hw2 := hw'.symm; subst hw2) | (go_at_call 37; refine (hcj.out _).mono ?_; rintro e w' ⟨rfl, hw'⟩; have hw2 := hw'.symm; subst hw2))
          exact ⟨⟨2, by omega, by go_num, hp'⟩, by simp [intOf]⟩
        · rw [hpj] at hcj
          have e : Hid (takeS s = some (1, Lib.trimPrefix s (opS 1))) := takeS_yes hpj (by decide)
          clear hp hcp hpj
          generalize Lib.trimPrefix s (opS 1) = r at *
          generalize hso : opS 1 = so at *
          have hsj := hid (hsg.out 1)
          rw [hso] at hsj
          clear hsg hso
          go_wp2_with (first | (go_at_call 29; refine (hsj.out _).mono ?_; rintro e w' ⟨rfl, hw'⟩; have hw2 := hw'.symm; subst hw2) | (go_at_call 37; refine (hcj.out _).mono ?_; rintro e w' ⟨rfl, hw'⟩; have hw2 := hw'.symm; subst hw2))
          go_ret3
          rw [e.out]
          exact ⟨rfl, Below.refl _ _⟩
      · have hcj := hid (hcp.out (opS 2))
        cases hpj : Lib.hasPrefix s (opS 2)
        · rw [hpj] at hcj
          have hp' : Hid (∀ i, i < 2 + 1 → Lib.hasPrefix s (opS (UInt8.ofNat i)) = false) := fun i hi => by
            by_cases e : i = 2
            · subst e; exact hpj
            · exact hp.out i (by omega)
          clear hp hcp hpj
          generalize Lib.trimPrefix s (opS 2) = r at *
          generalize hso : opS 2 = so at *
          have hsj := hid (hsg.out 2)
          rw [hso] at hsj
          clear hsg hso
          go_wp2_with (first | (go_at_call 29; refine (hsj.out _).mono ?_; rintro e w' ⟨rfl, hw'⟩; have hw2 := hw'.symm; subst hw2) | (go_at_call 37; refine (hcj.out _).mono ?_; rintro e w' ⟨rfl, hw'⟩; have hw2 := hw'.symm; subst hw2))
          exact ⟨⟨3, by omega, by go_num, hp'⟩, by simp [intOf]⟩
        · rw [hpj] at hcj
          have e : Hid (takeS s = some (2, Lib.trimPrefix s (opS 2))) := takeS_yes hpj (by decide)
          clear hp hcp hpj
          generalize Lib.trimPrefix s (opS 2) = r at *
          generalize hso : opS 2 = so at *
          have hsj := hid (hsg.out 2)
          rw [hso] at hsj
          clear hsg hso
          go_wp2_with (first | (go_at_call 29; refine (hsj.out _).mono ?_; rintro e w' ⟨rfl, hw'⟩; have hw2 := hw'.symm; subst hw2) | (go_at_call 37; refine (hcj.out _).mono ?_; rintro e w' ⟨rfl, hw'⟩; have hw2 := hw'.symm; subst hw2))
          go_ret3
          rw [e.out]
          exact ⟨rfl, Below.refl _ _⟩
    · obtain rfl : j = 3 := by omega
      have e : Hid (takeS s = none) := takeS_no (hp.out 0 (by omega)) (hp.out 1 (by omega)) (hp.out 2 (by omega))
      clear hp
      go_wp2
      go_ret3
      rw [e.out]
      exact ⟨rfl, Below.refl _ _⟩
end Go.Proofs.Ythbdghbfhjimkaa
