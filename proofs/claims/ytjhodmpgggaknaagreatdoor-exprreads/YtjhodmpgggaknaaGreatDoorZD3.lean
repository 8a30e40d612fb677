/- Contracts of the document's own word, kind. -/
import Derived.Test.YtjhodmpgggaknaaGreatDoorZD2
namespace Go.Proofs.YtjhodmpgggaknaaGreatDoor
open Go.RowKit Go.Shelf

theorem part_of (s : Tx) (b g : Nat) : (s.take (b + g)).drop b = (s.drop b).take g := by
  rw [List.drop_take, Nat.add_sub_cancel_left]
theorem mayN_two (c : UInt8) : mayN [97, c] = nmc c := by
  unfold mayN mayB
  have h : nmc 97 = true := by decide
  have h2 : low 97 = true := by decide
  simp [h, h2]
set_option maxHeartbeats 1000000 in
theorem word_any (s : Tx) (hs : s.length ≤ 9223372036854775800) (w : World) : Calls Tryz.prog 82 #[str s] w fun e w' => e = .returned (.bool (wordB s)) ∧ w' = w := by
  have hmn := hid (fun (c : UInt8) => rmayName_any [97, c] (by simp))
  unfold str at *
  go_enter Tryz.func82, Tryz.ntmps82
  go_wp2
  go_loop [3] (fun iv => ∃ j : Nat, j ≤ s.length ∧ iv = .int .i64 j ∧ Hid (∀ i, i < j → nmc (s.getD i 0) = true)) (fun iv => s.length - (intOf iv).toNat)
  case atStart => exact ⟨0, by omega, rfl, fun i hi => by omega⟩
  case round =>
    obtain ⟨j, hj, rfl, hp⟩ := hrel
    by_cases hlt : j < s.length
    · have hlt' : (j : Int) < (s.length : Int) := by omega
      have hone := ext_one hlt
      obtain ⟨c, hcd⟩ : ∃ c, c = s.getD j 0 := ⟨_, rfl⟩
      rw [← hcd] at hone
      have hcm : c ∈ s := by rw [hcd]; simp [List.getD, List.getElem?_eq_getElem hlt]
      have hcat : (⟨#[97]⟩ : ByteArray) ++ ⟨([c] : Tx).toArray⟩ = ⟨([97, c] : Tx).toArray⟩ := app_str [97] [c]
      have c5 : IntKind.i64.wrap ((j : Int) + 1) = (j : Int) + 1 := by rw [IntKind.wrap_i64]; omega
      have c3 : (0 : Int) ≤ (j : Int) := by omega
      have c4 : (j : Int) ≤ (j : Int) + 1 := by omega
      have c6 : (j : Int) + 1 ≤ (s.length : Int) := by omega
      have hm := hid (hmn.out c)
      rw [mayN_two] at hm
      cases hf : nmc c
      · have e : Hid (false = wordB s) := by
          unfold Hid wordB
          rw [List.all_eq_false.2 ⟨c, hcm, by rw [hf]; simp⟩]
          simp
        rw [hf] at hm
        clear hp hcd hcm hf
        go_wp2_with (go_at_call 106; refine (hm.out _).mono ?_; rintro e w' ⟨rfl, hw'⟩; have hw2 := hw'.symm; subst hw2)
        go_ret
        exact ⟨ret_bool e.out, rfl⟩
      · have hp' : Hid (∀ i, i < j + 1 → nmc (s.getD i 0) = true) := fun i hi => by
          by_cases h : i = j
          · subst h; rw [← hcd]; exact hf
          · exact hp.out i (by omega)
        rw [hf] at hm
        clear hp hcd hcm hf
        go_wp2_with (go_at_call 106; refine (hm.out _).mono ?_; rintro e w' ⟨rfl, hw'⟩; have hw2 := hw'.symm; subst hw2)
        exact ⟨⟨j + 1, by omega, by go_num, hp'⟩, by simp [intOf]; omega⟩
    · have hlt' : ¬ (j : Int) < (s.length : Int) := by omega
      obtain rfl : j = s.length := by omega
      have hall : s.all nmc = true := by
        rw [List.all_eq_true]
        intro c hc
        obtain ⟨i, hi⟩ := List.mem_iff_getElem?.1 hc
        have := hp.out i (List.getElem?_eq_some_iff.1 hi).1
        simpa [List.getD, hi] using this
      by_cases h0 : s = []
      · subst h0
        clear hp hall hmn
        go_wp2
        go_ret
        exact ⟨rfl, rfl⟩
      · have hemp := ne_beq h0
        have hl0 : 0 < s.length := by cases s <;> simp_all
        have hl0' : (0 : Int) < (s.length : Int) := by omega
        have hget := get_at hl0
        have e : Hid (wordB s = low (s.getD 0 0)) := by
          unfold Hid wordB
          rw [hall, hemp]
          cases s <;> simp_all
        obtain ⟨c, hcd⟩ : ∃ c, c = s.getD 0 0 := ⟨_, rfl⟩
        rw [← hcd] at hget e
        clear hp hall h0 hcd hmn
        by_cases h1 : 97 ≤ c.toNat
        · have h1' : (97 : Int) ≤ (c.toNat : Int) := by omega
          by_cases h2 : c.toNat ≤ 122
          · have h2' : (c.toNat : Int) ≤ 122 := by omega
            have e' : Hid (true = wordB s) := by unfold Hid; rw [e.out]; unfold low; simp [h1, h2]
            clear e h1 h2
            go_wp2
            go_ret
            exact ⟨ret_bool e'.out, rfl⟩
          · have h2' : ¬ (c.toNat : Int) ≤ 122 := by omega
            have e' : Hid (false = wordB s) := by unfold Hid; rw [e.out]; unfold low; simp; omega
            clear e h1 h2
            go_wp2
            go_ret
            exact ⟨ret_bool e'.out, rfl⟩
        · have h1' : ¬ (97 : Int) ≤ (c.toNat : Int) := by omega
          have e' : Hid (false = wordB s) := by unfold Hid; rw [e.out]; unfold low; simp; omega
          clear e h1
          go_wp2
          go_ret
          exact ⟨ret_bool e'.out, rfl⟩
def kindV (r : Nat × Tx) : Value := .tuple #[.int .u8 (r.1 : Int), .string ⟨r.2.toArray⟩]
set_option maxHeartbeats 1000000 in
theorem kind_any (s : Tx) (hs : s.length ≤ 9223372036854775800) (w : World) : Calls Tryz.prog 60 #[str s] w fun e w' => e = .returned (kindV (kindP s)) ∧ Below w.heap.size w w' := by
  have h1 := hid (word_any s hs)
  have h2 := hid (rnumber_any s hs)
  have h3 := hid (rsign_any s)
  unfold str kindP at *
  cases hw : wordB s
  · rw [hw] at h1
    cases hn : numB s
    · rw [hn] at h2
      cases hg : signB s
      · rw [hg] at h3
        clear hw hn hg
        unfold kindV
        go_enter Tryz.func60, Tryz.ntmps60
        go_wp2_with (first | (go_at_call 82; refine (h1.out _).mono ?_; rintro e w' ⟨rfl, hw'⟩; have hw2 := hw'.symm; subst hw2) | (go_at_call 83; refine (h2.out _).mono ?_; rintro e w' ⟨rfl, hw'⟩; have hw2 := hw'.symm; subst hw2) | (go_at_call 84; refine (h3.out _).mono ?_; rintro e w' ⟨rfl, hB⟩))
        go_ret2
        exact ⟨rfl, hB⟩
      · rw [hg] at h3
        clear hw hn hg
        unfold kindV
        go_enter Tryz.func60, Tryz.ntmps60
        go_wp2_with (first | (go_at_call 82; refine (h1.out _).mono ?_; rintro e w' ⟨rfl, hw'⟩; have hw2 := hw'.symm; subst hw2) | (go_at_call 83; refine (h2.out _).mono ?_; rintro e w' ⟨rfl, hw'⟩; have hw2 := hw'.symm; subst hw2) | (go_at_call 84; refine (h3.out _).mono ?_; rintro e w' ⟨rfl, hB⟩))
        go_ret2
        exact ⟨rfl, hB⟩
    · rw [hn] at h2
      clear hw hn h3
      unfold kindV
      go_enter Tryz.func60, Tryz.ntmps60
      go_wp2_with (first | (go_at_call 82; refine (h1.out _).mono ?_; rintro e w' ⟨rfl, hw'⟩; have hw2 := hw'.symm; subst hw2) | (go_at_call 83; refine (h2.out _).mono ?_; rintro e w' ⟨rfl, hw'⟩; have hw2 := hw'.symm; subst hw2))
      go_ret2
      exact ⟨rfl, Below.refl _ _⟩
  · rw [hw] at h1
    clear hw h2 h3
    unfold kindV
    go_enter Tryz.func60, Tryz.ntmps60
    go_wp2_with (go_at_call 82; refine (h1.out _).mono ?_; rintro e w' ⟨rfl, hw'⟩; have hw2 := hw'.symm; subst hw2)
    go_ret2
    exact ⟨rfl, Below.refl _ _⟩
end Go.Proofs.YtjhodmpgggaknaaGreatDoor
