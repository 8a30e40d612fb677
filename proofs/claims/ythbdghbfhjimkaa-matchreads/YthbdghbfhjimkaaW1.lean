/- Contracts: which bytes may be; MayName, MayValue. -/
import Derived.Test.YthbdghbfhjimkaaM
import Derived.Shelf.Abstract
import Derived.WalkMore
namespace Go.Proofs.Ythbdghbfhjimkaa
open Go.RowKit Go.Shelf

theorem ret_bool {a b : Bool} (h : a = b) : Ending.returned (.bool a) = .returned (.bool b) := by rw [h]
theorem size_of (s : Tx) : (⟨s.toArray⟩ : ByteArray).size = s.length := by simp [ByteArray.size]
theorem get_at {s : Tx} {j : Nat} (h : j < s.length) : (⟨s.toArray⟩ : ByteArray)[j]'(by rw [size_of]; exact h) = s.getD j 0 := by
  simp [List.getD, List.getElem?_eq_getElem h, ByteArray.getElem_eq_getElem_data]
theorem nat_le {a : Nat} {b : Nat} : decide ((a : Int) ≤ (b : Int)) = decide (a ≤ b) := by simp
set_option maxHeartbeats 400000 in
theorem letter_any (c : UInt8) (w : World) : Calls Try.prog 44 #[.int .u8 (c.toNat : Int)] w fun e w' => e = .returned (.bool (low c)) ∧ w' = w := by
  have hl : Hid (low c = (decide (97 ≤ c.toNat) && decide (c.toNat ≤ 122))) := rfl
  generalize low c = b at *
  by_cases h1 : 97 ≤ c.toNat
  · have h1' : (97 : Int) ≤ (c.toNat : Int) := by omega
    by_cases h2 : c.toNat ≤ 122
    · have h2' : (c.toNat : Int) ≤ 122 := by omega
      have e := hl.out
      rw [decide_eq_true h1, decide_eq_true h2] at e
      subst e
      clear hl h1 h2
      go_enter Try.func44, Try.ntmps44
      go_wp2
      go_ret
      exact ⟨rfl, rfl⟩
    · have h2' : ¬ (c.toNat : Int) ≤ 122 := by omega
      have e := hl.out
      rw [decide_eq_true h1, decide_eq_false h2] at e
      subst e
      clear hl h1 h2
      go_enter Try.func44, Try.ntmps44
      go_wp2
      go_ret
      exact ⟨rfl, rfl⟩
  · have h1' : ¬ (97 : Int) ≤ (c.toNat : Int) := by omega
    have e := hl.out
    rw [decide_eq_false h1] at e
    subst e
    clear hl h1
    go_enter Try.func44, Try.ntmps44
    go_wp2
    go_ret
    exact ⟨rfl, rfl⟩
set_option maxHeartbeats 1000000 in
theorem maybe_any (f : UInt8 → Bool) (k : Nat) (lb : Array Value) (ek : Enters Try.prog k) (hc : ∀ c w, Calls Try.prog k (#[.int .u8 (UInt8.toNat c : Int)] ++ lb) w fun e w' => e = .returned (.bool (f c)) ∧ w' = w) (s : Tx) (most : Nat) (hs : s.length ≤ 9223372036854775807) (w : World) :
    Calls Try.prog 42 #[str s, .int .i64 (most : Int), .func (.func k) #[] lb] w fun e w' => e = .returned (.bool (mayB most f s)) ∧ w' = w := by
  replace hc := hid hc
  have ek' : ∀ (args : Array Value) (w : World), (callFunc k args).run Try.prog w = .ok (.enter k args) w := ek
  by_cases h0 : s = []
  · subst h0
    unfold str
    go_enter Try.func42, Try.ntmps42
    go_wp2
    go_ret
    exact ⟨rfl, rfl⟩
  have h0' : s.isEmpty = false := by cases s <;> simp_all
  by_cases h1 : most < s.length
  · have e : mayB most f s = false := by
      unfold mayB
      rw [decide_eq_false (by omega : ¬ s.length ≤ most)]
      simp
    rw [e]
    unfold str
    go_enter Try.func42, Try.ntmps42
    go_wp2
    go_ret
    exact ⟨rfl, rfl⟩
  have h1' : ¬ (most : Int) < (s.length : Int) := by omega
  unfold str
  go_enter Try.func42, Try.ntmps42
  go_wp2
  go_loop [18] (fun iv => ∃ j : Nat, j ≤ s.length ∧ iv = .int .i64 j ∧ Hid (∀ i, i < j → f (s.getD i 0) = true)) (fun iv => s.length - (intOf iv).toNat)
  case atStart => exact ⟨0, by omega, rfl, fun i hi => by omega⟩
  case round =>
    obtain ⟨j, hj, rfl, hp⟩ := hrel
    by_cases hlt : j < s.length
    · have hlt' : (j : Int) < (s.length : Int) := by omega
      have hget := get_at hlt
      obtain ⟨c, hcd⟩ : ∃ c, c = s.getD j 0 := ⟨_, rfl⟩
      rw [← hcd] at hget
      cases hf : f c
      · have e : Hid (false = mayB most f s) := by
          unfold Hid mayB
          rw [List.all_eq_false.2 ⟨c, by rw [hcd]; simp [List.getD, List.getElem?_eq_getElem hlt], by rw [hf]; simp⟩]
          simp
        clear hp hcd
        go_wp2_with (go_at_fn k; refine (hc.out _ _).mono ?_; rintro e w' ⟨rfl, rfl⟩)
        go_ret
        exact ⟨ret_bool e.out, rfl⟩
      · have hp' : Hid (∀ i, i < j + 1 → f (s.getD i 0) = true) := fun i hi => by
          by_cases h : i = j
          · subst h; rw [← hcd]; exact hf
          · exact hp.out i (by omega)
        clear hp hcd
        go_wp2_with (go_at_fn k; refine (hc.out _ _).mono ?_; rintro e w' ⟨rfl, rfl⟩)
        exact ⟨⟨j + 1, by omega, by go_num, hp'⟩, by simp [intOf]; omega⟩
    · have hlt' : ¬ (j : Int) < (s.length : Int) := by omega
      obtain rfl : j = s.length := by omega
      have e : Hid (true = mayB most f s) := by
        unfold Hid
        symm
        rw [mayB_iff]
        refine ⟨h0, by omega, fun c hc => ?_⟩
        obtain ⟨i, hi⟩ := List.mem_iff_getElem?.1 hc
        have := hp.out i (List.getElem?_eq_some_iff.1 hi).1
        simpa [List.getD, hi] using this
      clear hp
      go_wp2
      go_ret
      exact ⟨ret_bool e.out, rfl⟩
theorem e_ofName : Enters Try.prog 43 := enters_of Try.func43 (by kernel_rfl) rfl
theorem e_ofValue : Enters Try.prog 57 := enters_of Try.func57 (by kernel_rfl) rfl
set_option maxHeartbeats 1000000 in
theorem ofName_any (c : UInt8) (w : World) : Calls Try.prog 43 #[.int .u8 (c.toNat : Int)] w fun e w' => e = .returned (.bool (nmc c)) ∧ w' = w := by
  have hl : Hid (nmc c = (low c || (decide (48 ≤ c.toNat) && decide (c.toNat ≤ 57)) || c.toNat == 95)) := rfl
  have hlo := hid (letter_any c)
  generalize nmc c = b at *
  cases hb : low c
  · rw [hb] at hlo hl
    clear hb
    by_cases h1 : 48 ≤ c.toNat
    · have h1' : (48 : Int) ≤ (c.toNat : Int) := by omega
      by_cases h2 : c.toNat ≤ 57
      · have h2' : (c.toNat : Int) ≤ 57 := by omega
        have e := hl.out
        rw [decide_eq_true h1, decide_eq_true h2] at e
        simp at e
        subst e
        clear hl h1 h2
        go_enter Try.func43, Try.ntmps43
        go_wp2_with (go_at_call 44; refine (hlo.out _).mono ?_; rintro e w' ⟨rfl, rfl⟩)
        go_ret
        exact ⟨rfl, rfl⟩
      · have h2' : decide ((c.toNat : Int) ≤ 57) = false := by simp; omega
        have e := hl.out
        rw [decide_eq_false h2] at e
        simp at e
        by_cases h3 : c.toNat = 95
        · have h3' : ((c.toNat : Int) == 95) = true := by simp; omega
          have : (c.toNat == 95) = true := by simpa using h3
          have e' : b = true := by rw [e]; simpa using h3
          subst e'
          clear hl h1 h2 h3 e this
          go_enter Try.func43, Try.ntmps43
          go_wp2_with (go_at_call 44; refine (hlo.out _).mono ?_; rintro e w' ⟨rfl, rfl⟩)
          go_ret
          exact ⟨rfl, rfl⟩
        · have h3' : ((c.toNat : Int) == 95) = false := by simp; omega
          have e' : b = false := by rw [e]; simpa using h3
          subst e'
          clear hl h1 h2 h3 e
          go_enter Try.func43, Try.ntmps43
          go_wp2_with (go_at_call 44; refine (hlo.out _).mono ?_; rintro e w' ⟨rfl, rfl⟩)
          go_ret
          exact ⟨rfl, rfl⟩
    · have h1' : ¬ (48 : Int) ≤ (c.toNat : Int) := by omega
      have h2' : (c.toNat : Int) ≤ 57 := by omega
      have h3' : ((c.toNat : Int) == 95) = false := by simp; omega
      have e := hl.out
      have h3 : (c.toNat == 95) = false := by simp; omega
      rw [decide_eq_false h1, h3] at e
      simp at e
      subst e
      clear hl h1 h3
      go_enter Try.func43, Try.ntmps43
      go_wp2_with (go_at_call 44; refine (hlo.out _).mono ?_; rintro e w' ⟨rfl, rfl⟩)
      go_ret
      exact ⟨rfl, rfl⟩
  · rw [hb] at hlo hl
    have e := hl.out
    simp at e
    subst e
    clear hl hb
    go_enter Try.func43, Try.ntmps43
    go_wp2_with (go_at_call 44; refine (hlo.out _).mono ?_; rintro e w' ⟨rfl, rfl⟩)
    go_ret
    exact ⟨rfl, rfl⟩
set_option maxHeartbeats 400000 in
theorem ofValue_any (c : UInt8) (w : World) : Calls Try.prog 57 #[.int .u8 (c.toNat : Int)] w fun e w' => e = .returned (.bool (vlc c)) ∧ w' = w := by
  have hl : Hid (vlc c = (decide (32 ≤ c.toNat) && decide (c.toNat ≤ 126))) := rfl
  generalize vlc c = b at *
  by_cases h1 : 32 ≤ c.toNat
  · have h1' : (32 : Int) ≤ (c.toNat : Int) := by omega
    by_cases h2 : c.toNat ≤ 126
    · have h2' : (c.toNat : Int) ≤ 126 := by omega
      have e := hl.out
      rw [decide_eq_true h1, decide_eq_true h2] at e
      subst e
      clear hl h1 h2
      go_enter Try.func57, Try.ntmps57
      go_wp2
      go_ret
      exact ⟨rfl, rfl⟩
    · have h2' : ¬ (c.toNat : Int) ≤ 126 := by omega
      have e := hl.out
      rw [decide_eq_true h1, decide_eq_false h2] at e
      subst e
      clear hl h1 h2
      go_enter Try.func57, Try.ntmps57
      go_wp2
      go_ret
      exact ⟨rfl, rfl⟩
  · have h1' : ¬ (32 : Int) ≤ (c.toNat : Int) := by omega
    have e := hl.out
    rw [decide_eq_false h1] at e
    subst e
    clear hl h1
    go_enter Try.func57, Try.ntmps57
    go_wp2
    go_ret
    exact ⟨rfl, rfl⟩
set_option maxHeartbeats 400000 in
theorem mayName_any (s : Tx) (w : World) (hs : s.length ≤ 9223372036854775807) : Calls Try.prog 24 #[str s] w fun e w' => e = .returned (.bool (mayN s)) ∧ w' = w := by
  have hm := hid (maybe_any nmc _ #[] e_ofName (fun c w => ofName_any c w) s 16 hs w)
  have hl : Hid (mayN s = (mayB 16 nmc s && low (s.headD 0))) := rfl
  generalize mayN s = b at *
  unfold str at *
  cases hb : mayB 16 nmc s
  · rw [hb] at hm hl
    have e := hl.out
    simp at e
    subst e
    clear hl hb
    go_enter Try.func24, Try.ntmps24
    go_wp2_with (go_at_call 42; refine hm.out.mono ?_; rintro e w' ⟨rfl, rfl⟩)
    go_ret
    exact ⟨rfl, rfl⟩
  · rw [hb] at hm hl
    have h0 := (mayB_iff.1 hb).1
    cases s with
    | nil => exact absurd rfl h0
    | cons c t =>
      have e := hl.out
      have hget : (⟨(c :: t).toArray⟩ : ByteArray)[0]'(by simp [ByteArray.size]) = c := rfl
      have hlo := hid (letter_any c)
      simp only [List.headD_cons, Bool.true_and] at e
      rw [← e] at hlo
      clear hl hb h0 e
      go_enter Try.func24, Try.ntmps24
      go_wp2_with (first | (go_at_call 42; refine hm.out.mono ?_; rintro e w' ⟨rfl, rfl⟩) | (go_at_call 44; refine (hlo.out _).mono ?_; rintro e w' ⟨rfl, rfl⟩))
      go_ret
      exact ⟨rfl, rfl⟩
set_option maxHeartbeats 400000 in
theorem mayValue_any (s : Tx) (w : World) (hs : s.length ≤ 9223372036854775807) : Calls Try.prog 45 #[str s] w fun e w' => e = .returned (.bool (mayV s)) ∧ w' = w := by
  have hm := hid (maybe_any vlc _ #[] e_ofValue (fun c w => ofValue_any c w) s 32 hs w)
  have hl : Hid (mayB 32 vlc s = mayV s) := rfl
  rw [hl.out] at hm
  clear hl
  unfold str at *
  go_enter Try.func45, Try.ntmps45
  go_wp2_with (go_at_call 42; refine hm.out.mono ?_; rintro e w' ⟨rfl, rfl⟩)
  go_ret
  exact ⟨rfl, rfl⟩
end Go.Proofs.Ythbdghbfhjimkaa
