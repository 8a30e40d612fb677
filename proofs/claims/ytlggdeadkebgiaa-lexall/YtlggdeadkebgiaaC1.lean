/- Contracts: which bytes a letter, a digit, a word, a remark has; count over any of them. -/
import Derived.Test.YtlggdeadkebgiaaM
import Derived.Test.YtlggdeadkebgiaaL2
import Derived.Shelf.Abstract
import Derived.WalkMore
namespace Go.Proofs.Ytlggdeadkebgiaa
open Go.RowKit Go.Shelf

theorem ret_bool {a b : Bool} (h : a = b) : Ending.returned (.bool a) = .returned (.bool b) := by rw [h]
theorem size_of (s : Tx) : (⟨s.toArray⟩ : ByteArray).size = s.length := by simp [ByteArray.size]
theorem get_at {s : Tx} {j : Nat} (h : j < s.length) : (⟨s.toArray⟩ : ByteArray)[j]'(by rw [size_of]; exact h) = s.getD j 0 := by
  simp [List.getD, List.getElem?_eq_getElem h, ByteArray.getElem_eq_getElem_data]
theorem drop_at {s : Tx} {i : Nat} (h : i < s.length) : s.drop i = s.getD i 0 :: s.drop (i + 1) := by
  rw [List.drop_eq_getElem_cons h]
  simp [List.getD, List.getElem?_eq_getElem h]
theorem app_str (a b : Tx) : (⟨a.toArray⟩ : ByteArray) ++ ⟨b.toArray⟩ = ⟨(a ++ b).toArray⟩ := by
  apply ByteArray.ext
  simp
theorem ext_str (s : Tx) (i j : Nat) : (⟨s.toArray⟩ : ByteArray).extract i j = ⟨((s.take j).drop i).toArray⟩ := by
  apply ByteArray.ext
  apply Array.ext'
  simp [ByteArray.data_extract, List.drop_take]
theorem ext_one {s : Tx} {j : Nat} (h : j < s.length) : (⟨s.toArray⟩ : ByteArray).extract j (j + 1) = ⟨([s.getD j 0] : Tx).toArray⟩ := by
  rw [ext_str, List.take_succ_eq_append_getElem h, List.drop_append_of_le_length (by simp; omega), List.drop_eq_nil_of_le (by simp; omega)]
  simp [List.getD, List.getElem?_eq_getElem h]
theorem ext_from (s : Tx) (i n : Nat) (hn : n = s.length) : (⟨s.toArray⟩ : ByteArray).extract i n = ⟨(s.drop i).toArray⟩ := by
  subst hn; rw [ext_str, List.take_length]
theorem ext_to (s : Tx) (j : Nat) : (⟨s.toArray⟩ : ByteArray).extract 0 j = ⟨(s.take j).toArray⟩ := by
  rw [ext_str, List.drop_zero]
theorem byte_lt (c : UInt8) : 0 ≤ (c.toNat : Int) ∧ (c.toNat : Int) < 256 := by
  have := UInt8.toNat_lt c
  omega
set_option maxHeartbeats 400000 in
theorem letter_any (c : UInt8) (w : World) : Calls Try.prog 29 #[.int .u8 (c.toNat : Int)] w fun e w' => e = .returned (.bool (low c)) ∧ w' = w := by
  have hl : Hid (low c = (decide (97 ≤ c.toNat) && decide (c.toNat ≤ 122))) := rfl
  generalize low c = b at *
  by_cases h1 : 97 ≤ c.toNat
  · have h1' : (97 : Int) ≤ (c.toNat : Int) := by omega
    by_cases h2 : c.toNat ≤ 122
    · have h2' : (c.toNat : Int) ≤ 122 := by omega
      have e := hl.out
      rw [decide_eq_true h1, decide_eq_true h2] at e
      subst e
      clear hl h1 h2
      go_enter Try.func29, Try.ntmps29
      go_wp2
      go_ret
      exact ⟨rfl, rfl⟩
    · have h2' : ¬ (c.toNat : Int) ≤ 122 := by omega
      have e := hl.out
      rw [decide_eq_true h1, decide_eq_false h2] at e
      subst e
      clear hl h1 h2
      go_enter Try.func29, Try.ntmps29
      go_wp2
      go_ret
      exact ⟨rfl, rfl⟩
  · have h1' : ¬ (97 : Int) ≤ (c.toNat : Int) := by omega
    have e := hl.out
    rw [decide_eq_false h1] at e
    subst e
    clear hl h1
    go_enter Try.func29, Try.ntmps29
    go_wp2
    go_ret
    exact ⟨rfl, rfl⟩
set_option maxHeartbeats 400000 in
theorem digit_any (c : UInt8) (w : World) : Calls Try.prog 31 #[.int .u8 (c.toNat : Int)] w fun e w' => e = .returned (.bool (dig c)) ∧ w' = w := by
  have hl : Hid (dig c = (decide (48 ≤ c.toNat) && decide (c.toNat ≤ 57))) := rfl
  generalize dig c = b at *
  by_cases h1 : 48 ≤ c.toNat
  · have h1' : (48 : Int) ≤ (c.toNat : Int) := by omega
    by_cases h2 : c.toNat ≤ 57
    · have h2' : (c.toNat : Int) ≤ 57 := by omega
      have e := hl.out
      rw [decide_eq_true h1, decide_eq_true h2] at e
      subst e
      clear hl h1 h2
      go_enter Try.func31, Try.ntmps31
      go_wp2
      go_ret
      exact ⟨rfl, rfl⟩
    · have h2' : ¬ (c.toNat : Int) ≤ 57 := by omega
      have e := hl.out
      rw [decide_eq_true h1, decide_eq_false h2] at e
      subst e
      clear hl h1 h2
      go_enter Try.func31, Try.ntmps31
      go_wp2
      go_ret
      exact ⟨rfl, rfl⟩
  · have h1' : ¬ (48 : Int) ≤ (c.toNat : Int) := by omega
    have e := hl.out
    rw [decide_eq_false h1] at e
    subst e
    clear hl h1
    go_enter Try.func31, Try.ntmps31
    go_wp2
    go_ret
    exact ⟨rfl, rfl⟩
set_option maxHeartbeats 400000 in
theorem ofRemark_any (c : UInt8) (w : World) : Calls Try.prog 28 #[.int .u8 (c.toNat : Int)] w fun e w' => e = .returned (.bool (rmk c)) ∧ w' = w := by
  by_cases h : c.toNat = 10
  · have e : Hid (false = rmk c) := by unfold Hid rmk; simp [h]
    have h1 : ((c.toNat : Int) != 10) = false := by simp; omega
    clear h
    go_enter Try.func28, Try.ntmps28
    go_wp2
    go_ret
    exact ⟨ret_bool e.out, rfl⟩
  · have e : Hid (true = rmk c) := by unfold Hid rmk; simp [h]
    have h1 : ((c.toNat : Int) != 10) = true := by simp; omega
    clear h
    go_enter Try.func28, Try.ntmps28
    go_wp2
    go_ret
    exact ⟨ret_bool e.out, rfl⟩
set_option maxHeartbeats 400000 in
theorem ofWord_any (c : UInt8) (w : World) : Calls Try.prog 30 #[.int .u8 (c.toNat : Int)] w fun e w' => e = .returned (.bool (nmc c)) ∧ w' = w := by
  have hl : Hid (nmc c = (low c || dig c || c.toNat == 95)) := rfl
  have hlo := hid (letter_any c)
  have hdi := hid (digit_any c)
  generalize nmc c = b at *
  cases hb : low c
  · rw [hb] at hlo hl
    cases hd : dig c
    · rw [hd] at hdi hl
      by_cases h3 : c.toNat = 95
      · have h3' : ((c.toNat : Int) == 95) = true := by simp; omega
        have e := hl.out
        rw [show (c.toNat == 95) = true by simpa using h3] at e
        subst e
        clear hl h3 hb hd
        go_enter Try.func30, Try.ntmps30
        go_wp2_with (first | (go_at_call 29; refine (hlo.out _).mono ?_; rintro e w' ⟨rfl, rfl⟩) | (go_at_call 31; refine (hdi.out _).mono ?_; rintro e w' ⟨rfl, rfl⟩))
        go_ret
        exact ⟨rfl, rfl⟩
      · have h3' : ((c.toNat : Int) == 95) = false := by simp; omega
        have e := hl.out
        rw [show (c.toNat == 95) = false by simpa using h3] at e
        subst e
        clear hl h3 hb hd
        go_enter Try.func30, Try.ntmps30
        go_wp2_with (first | (go_at_call 29; refine (hlo.out _).mono ?_; rintro e w' ⟨rfl, rfl⟩) | (go_at_call 31; refine (hdi.out _).mono ?_; rintro e w' ⟨rfl, rfl⟩))
        go_ret
        exact ⟨rfl, rfl⟩
    · rw [hd] at hdi hl
      have e := hl.out
      simp at e
      subst e
      clear hl hb hd
      go_enter Try.func30, Try.ntmps30
      go_wp2_with (first | (go_at_call 29; refine (hlo.out _).mono ?_; rintro e w' ⟨rfl, rfl⟩) | (go_at_call 31; refine (hdi.out _).mono ?_; rintro e w' ⟨rfl, rfl⟩))
      go_ret
      exact ⟨rfl, rfl⟩
  · rw [hb] at hlo hl
    have e := hl.out
    simp at e
    subst e
    clear hl hb
    go_enter Try.func30, Try.ntmps30
    go_wp2_with (go_at_call 29; refine (hlo.out _).mono ?_; rintro e w' ⟨rfl, rfl⟩)
    go_ret
    exact ⟨rfl, rfl⟩
theorem e_digit : Enters Try.prog 31 := enters_of Try.func31 (by kernel_rfl) rfl
theorem e_ofWord : Enters Try.prog 30 := enters_of Try.func30 (by kernel_rfl) rfl
theorem e_ofRemark : Enters Try.prog 28 := enters_of Try.func28 (by kernel_rfl) rfl
set_option maxHeartbeats 1000000 in
theorem count_fn (f : UInt8 → Bool) (k : Nat) (lb : Array Value) (ek : Enters Try.prog k) (hc : ∀ c w, Calls Try.prog k (#[.int .u8 (UInt8.toNat c : Int)] ++ lb) w fun e w' => e = .returned (.bool (f c)) ∧ w' = w) (s : Tx) (hs : s.length ≤ 9223372036854775806) (w : World) :
    Calls Try.prog 27 #[str s, .func (.func k) #[] lb] w fun e w' => e = .returned (.int .i64 (cnt f s : Int)) ∧ w' = w := by
  replace hc := hid hc
  have ek' : ∀ (args : Array Value) (w : World), (callFunc k args).run Try.prog w = .ok (.enter k args) w := ek
  unfold str
  go_enter Try.func27, Try.ntmps27
  go_wp2
  go_loop [5] (fun iv => ∃ j : Nat, j ≤ s.length ∧ iv = .int .i64 j ∧ Hid (∀ i, i < j → f (s.getD i 0) = true)) (fun iv => s.length - (intOf iv).toNat)
  case atStart => exact ⟨0, by omega, rfl, fun i hi => by omega⟩
  case round =>
    obtain ⟨j, hj, rfl, hp⟩ := hrel
    by_cases hlt : j < s.length
    · have hlt' : (j : Int) < (s.length : Int) := by omega
      have hget := get_at hlt
      obtain ⟨c, hcd⟩ : ∃ c, c = s.getD j 0 := ⟨_, rfl⟩
      rw [← hcd] at hget
      cases hf : f c
      · have e : Hid ((j : Int) = (cnt f s : Int)) := by
          unfold Hid
          rw [cnt_eq s j hj hp.out (fun _ => by rw [← hcd]; exact hf)]
        clear hp hcd
        go_wp2_with (go_at_fn k; refine (hc.out _ _).mono ?_; rintro e w' ⟨rfl, rfl⟩)
        go_ret
        exact ⟨ret_int e.out, rfl⟩
      · have hp' : Hid (∀ i, i < j + 1 → f (s.getD i 0) = true) := fun i hi => by
          by_cases h : i = j
          · subst h; rw [← hcd]; exact hf
          · exact hp.out i (by omega)
        clear hp hcd
        go_wp2_with (go_at_fn k; refine (hc.out _ _).mono ?_; rintro e w' ⟨rfl, rfl⟩)
        exact ⟨⟨j + 1, by omega, by go_num, hp'⟩, by simp [intOf]; omega⟩
    · have hlt' : ¬ (j : Int) < (s.length : Int) := by omega
      obtain rfl : j = s.length := by omega
      have e : Hid ((s.length : Int) = (cnt f s : Int)) := by
        unfold Hid
        rw [cnt_eq s s.length hj hp.out (fun h => absurd h (by omega))]
      clear hp
      go_wp2
      go_ret
      exact ⟨ret_int e.out, rfl⟩
theorem count_digit (s : Tx) (hs : s.length ≤ 9223372036854775806) (w : World) : Calls Try.prog 27 #[str s, .func (.func 31) #[] #[]] w fun e w' => e = .returned (.int .i64 (cnt dig s : Int)) ∧ w' = w :=
  count_fn dig _ #[] e_digit (fun c w => digit_any c w) s hs w
theorem count_word (s : Tx) (hs : s.length ≤ 9223372036854775806) (w : World) : Calls Try.prog 27 #[str s, .func (.func 30) #[] #[]] w fun e w' => e = .returned (.int .i64 (cnt nmc s : Int)) ∧ w' = w :=
  count_fn nmc _ #[] e_ofWord (fun c w => ofWord_any c w) s hs w
theorem count_remark (s : Tx) (hs : s.length ≤ 9223372036854775806) (w : World) : Calls Try.prog 27 #[str s, .func (.func 28) #[] #[]] w fun e w' => e = .returned (.int .i64 (cnt rmk s : Int)) ∧ w' = w :=
  count_fn rmk _ #[] e_ofRemark (fun c w => ofRemark_any c w) s hs w
end Go.Proofs.Ytlggdeadkebgiaa
