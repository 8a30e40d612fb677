/- Joined: C1 C2 C3. -/
import Derived.Test.YtjhodmpgggaknaaGreatDoorZGR
import Derived.Test.YtjhodmpgggaknaaGreatDoorZGB
import Derived.Shelf.Abstract
import Derived.WalkMore
/- Contracts: which bytes a letter, a digit, a word, a remark has; count over any of them. -/
namespace Go.Proofs.YtjhodmpgggaknaaGreatDoor
open Go.RowKit Go.Shelf

theorem ret_bool {a b : Bool} (h : a = b) : Ending.returned (.bool a) = .returned (.bool b) := by rw [h]
theorem size_of (s : Tx) : (⟨s.toArray⟩ : ByteArray).size = s.length := by simp [ByteArray.size]
theorem get_at {s : Tx} {j : Nat} (h : j < s.length) : (⟨s.toArray⟩ : ByteArray)[j]'(by rw [size_of]; exact h) = s.getD j 0 := by
  simp [List.getD, List.getElem?_eq_getElem h, ByteArray.getElem_eq_getElem_data]
theorem drop_at {s : Tx} {i : Nat} (h : i < s.length) : s.drop i = s.getD i 0 :: s.drop (i + 1) := by
  rw [List.drop_eq_getElem_cons h]
  simp [List.getD, List.getElem?_eq_getElem h]
theorem app_str (a b : Tx) : (⟨a.toArray⟩ : ByteArray) ++ ⟨b.toArray⟩ = ⟨(a ++ b).toArray⟩ := by
  apply ByteArray.ext
  simp
theorem ext_str (s : Tx) (i j : Nat) : (⟨s.toArray⟩ : ByteArray).extract i j = ⟨((s.take j).drop i).toArray⟩ := by
  apply ByteArray.ext
  apply Array.ext'
  simp [ByteArray.data_extract, List.drop_take]
theorem ext_one {s : Tx} {j : Nat} (h : j < s.length) : (⟨s.toArray⟩ : ByteArray).extract j (j + 1) = ⟨([s.getD j 0] : Tx).toArray⟩ := by
  rw [ext_str, List.take_succ_eq_append_getElem h, List.drop_append_of_le_length (by simp; omega), List.drop_eq_nil_of_le (by simp; omega)]
  simp [List.getD, List.getElem?_eq_getElem h]
theorem ext_from (s : Tx) (i n : Nat) (hn : n = s.length) : (⟨s.toArray⟩ : ByteArray).extract i n = ⟨(s.drop i).toArray⟩ := by
  subst hn; rw [ext_str, List.take_length]
theorem ext_to (s : Tx) (j : Nat) : (⟨s.toArray⟩ : ByteArray).extract 0 j = ⟨(s.take j).toArray⟩ := by
  rw [ext_str, List.drop_zero]
theorem byte_lt (c : UInt8) : 0 ≤ (c.toNat : Int) ∧ (c.toNat : Int) < 256 := by
  have := UInt8.toNat_lt c
  omega
set_option maxHeartbeats 400000 in
theorem letter_any (c : UInt8) (w : World) : Calls Tryz.prog 76 #[.int .u8 (c.toNat : Int)] w fun e w' => e = .returned (.bool (low c)) ∧ w' = w := by
  have hl : Hid (low c = (decide (97 ≤ c.toNat) && decide (c.toNat ≤ 122))) := rfl
  generalize low c = b at *
  by_cases h1 : 97 ≤ c.toNat
  · have h1' : (97 : Int) ≤ (c.toNat : Int) := by omega
    by_cases h2 : c.toNat ≤ 122
    · have h2' : (c.toNat : Int) ≤ 122 := by omega
      have e := hl.out
      rw [decide_eq_true h1, decide_eq_true h2] at e
      subst e
      clear hl h1 h2
      go_enter Tryz.func76, Tryz.ntmps76
      go_wp2
      go_ret
      exact ⟨rfl, rfl⟩
    · have h2' : ¬ (c.toNat : Int) ≤ 122 := by omega
      have e := hl.out
      rw [decide_eq_true h1, decide_eq_false h2] at e
      subst e
      clear hl h1 h2
      go_enter Tryz.func76, Tryz.ntmps76
      go_wp2
      go_ret
      exact ⟨rfl, rfl⟩
  · have h1' : ¬ (97 : Int) ≤ (c.toNat : Int) := by omega
    have e := hl.out
    rw [decide_eq_false h1] at e
    subst e
    clear hl h1
    go_enter Tryz.func76, Tryz.ntmps76
    go_wp2
    go_ret
    exact ⟨rfl, rfl⟩
set_option maxHeartbeats 400000 in
theorem digit_any (c : UInt8) (w : World) : Calls Tryz.prog 78 #[.int .u8 (c.toNat : Int)] w fun e w' => e = .returned (.bool (dig c)) ∧ w' = w := by
  have hl : Hid (dig c = (decide (48 ≤ c.toNat) && decide (c.toNat ≤ 57))) := rfl
  generalize dig c = b at *
  by_cases h1 : 48 ≤ c.toNat
  · have h1' : (48 : Int) ≤ (c.toNat : Int) := by omega
    by_cases h2 : c.toNat ≤ 57
    · have h2' : (c.toNat : Int) ≤ 57 := by omega
      have e := hl.out
      rw [decide_eq_true h1, decide_eq_true h2] at e
      subst e
      clear hl h1 h2
      go_enter Tryz.func78, Tryz.ntmps78
      go_wp2
      go_ret
      exact ⟨rfl, rfl⟩
    · have h2' : ¬ (c.toNat : Int) ≤ 57 := by omega
      have e := hl.out
      rw [decide_eq_true h1, decide_eq_false h2] at e
      subst e
      clear hl h1 h2
      go_enter Tryz.func78, Tryz.ntmps78
      go_wp2
      go_ret
      exact ⟨rfl, rfl⟩
  · have h1' : ¬ (48 : Int) ≤ (c.toNat : Int) := by omega
    have e := hl.out
    rw [decide_eq_false h1] at e
    subst e
    clear hl h1
    go_enter Tryz.func78, Tryz.ntmps78
    go_wp2
    go_ret
    exact ⟨rfl, rfl⟩
set_option maxHeartbeats 400000 in
theorem ofRemark_any (c : UInt8) (w : World) : Calls Tryz.prog 75 #[.int .u8 (c.toNat : Int)] w fun e w' => e = .returned (.bool (rmk c)) ∧ w' = w := by
  by_cases h : c.toNat = 10
  · have e : Hid (false = rmk c) := by unfold Hid rmk; simp [h]
    have h1 : ((c.toNat : Int) != 10) = false := by simp; omega
    clear h
    go_enter Tryz.func75, Tryz.ntmps75
    go_wp2
    go_ret
    exact ⟨ret_bool e.out, rfl⟩
  · have e : Hid (true = rmk c) := by unfold Hid rmk; simp [h]
    have h1 : ((c.toNat : Int) != 10) = true := by simp; omega
    clear h
    go_enter Tryz.func75, Tryz.ntmps75
    go_wp2
    go_ret
    exact ⟨ret_bool e.out, rfl⟩
set_option maxHeartbeats 400000 in
theorem ofWord_any (c : UInt8) (w : World) : Calls Tryz.prog 77 #[.int .u8 (c.toNat : Int)] w fun e w' => e = .returned (.bool (nmc c)) ∧ w' = w := by
  have hl : Hid (nmc c = (low c || dig c || c.toNat == 95)) := rfl
  have hlo := hid (letter_any c)
  have hdi := hid (digit_any c)
  generalize nmc c = b at *
  cases hb : low c
  · rw [hb] at hlo hl
    cases hd : dig c
    · rw [hd] at hdi hl
      by_cases h3 : c.toNat = 95
      · have h3' : ((c.toNat : Int) == 95) = true := by simp; omega
        have e := hl.out
        rw [show (c.toNat == 95) = true by simpa using h3] at e
        subst e
        clear hl h3 hb hd
        go_enter Tryz.func77, Tryz.ntmps77
        go_wp2_with (first | (go_at_call 76; refine (hlo.out _).mono ?_; rintro e w' ⟨rfl, rfl⟩) | (go_at_call 78; refine (hdi.out _).mono ?_; rintro e w' ⟨rfl, rfl⟩))
        go_ret
        exact ⟨rfl, rfl⟩
      · have h3' : ((c.toNat : Int) == 95) = false := by simp; omega
        have e := hl.out
        rw [show (c.toNat == 95) = false by simpa using h3] at e
        subst e
        clear hl h3 hb hd
        go_enter Tryz.func77, Tryz.ntmps77
        go_wp2_with (first | (go_at_call 76; refine (hlo.out _).mono ?_; rintro e w' ⟨rfl, rfl⟩) | (go_at_call 78; refine (hdi.out _).mono ?_; rintro e w' ⟨rfl, rfl⟩))
        go_ret
        exact ⟨rfl, rfl⟩
    · rw [hd] at hdi hl
      have e := hl.out
      simp at e
      subst e
      clear hl hb hd
      go_enter Tryz.func77, Tryz.ntmps77
      go_wp2_with (first | (go_at_call 76; refine (hlo.out _).mono ?_; rintro e w' ⟨rfl, rfl⟩) | (go_at_call 78; refine (hdi.out _).mono ?_; rintro e w' ⟨rfl, rfl⟩))
      go_ret
      exact ⟨rfl, rfl⟩
  · rw [hb] at hlo hl
    have e := hl.out
    simp at e
    subst e
    clear hl hb
    go_enter Tryz.func77, Tryz.ntmps77
    go_wp2_with (go_at_call 76; refine (hlo.out _).mono ?_; rintro e w' ⟨rfl, rfl⟩)
    go_ret
    exact ⟨rfl, rfl⟩
theorem e_digit : Enters Tryz.prog 78 := enters_of Tryz.func78 (by kernel_rfl) rfl
theorem e_ofWord : Enters Tryz.prog 77 := enters_of Tryz.func77 (by kernel_rfl) rfl
theorem e_ofRemark : Enters Tryz.prog 75 := enters_of Tryz.func75 (by kernel_rfl) rfl
set_option maxHeartbeats 1000000 in
theorem count_fn (f : UInt8 → Bool) (k : Nat) (lb : Array Value) (ek : Enters Tryz.prog k) (hc : ∀ c w, Calls Tryz.prog k (#[.int .u8 (UInt8.toNat c : Int)] ++ lb) w fun e w' => e = .returned (.bool (f c)) ∧ w' = w) (s : Tx) (hs : s.length ≤ 9223372036854775806) (w : World) :
    Calls Tryz.prog 74 #[str s, .func (.func k) #[] lb] w fun e w' => e = .returned (.int .i64 (cnt f s : Int)) ∧ w' = w := by
  replace hc := hid hc
  have ek' : ∀ (args : Array Value) (w : World), (callFunc k args).run Tryz.prog w = .ok (.enter k args) w := ek
  unfold str
  go_enter Tryz.func74, Tryz.ntmps74
  go_wp2
  go_loop [5] (fun iv => ∃ j : Nat, j ≤ s.length ∧ iv = .int .i64 j ∧ Hid (∀ i, i < j → f (s.getD i 0) = true)) (fun iv => s.length - (intOf iv).toNat)
  case atStart => exact ⟨0, by omega, rfl, fun i hi => by omega⟩
  case round =>
    obtain ⟨j, hj, rfl, hp⟩ := hrel
    by_cases hlt : j < s.length
    · have hlt' : (j : Int) < (s.length : Int) := by omega
      have hget := get_at hlt
      obtain ⟨c, hcd⟩ : ∃ c, c = s.getD j 0 := ⟨_, rfl⟩
      rw [← hcd] at hget
      cases hf : f c
      · have e : Hid ((j : Int) = (cnt f s : Int)) := by
          unfold Hid
          rw [cnt_eq s j hj hp.out (fun _ => by rw [← hcd]; exact hf)]
        clear hp hcd
        go_wp2_with (go_at_fn k; refine (hc.out _ _).mono ?_; rintro e w' ⟨rfl, rfl⟩)
        go_ret
        exact ⟨ret_int e.out, rfl⟩
      · have hp' : Hid (∀ i, i < j + 1 → f (s.getD i 0) = true) := fun i hi => by
          by_cases h : i = j
          · subst h; rw [← hcd]; exact hf
          · exact hp.out i (by omega)
        clear hp hcd
        go_wp2_with (go_at_fn k; refine (hc.out _ _).mono ?_; rintro e w' ⟨rfl, rfl⟩)
        exact ⟨⟨j + 1, by omega, by go_num, hp'⟩, by simp [intOf]; omega⟩
    · have hlt' : ¬ (j : Int) < (s.length : Int) := by omega
      obtain rfl : j = s.length := by omega
      have e : Hid ((s.length : Int) = (cnt f s : Int)) := by
        unfold Hid
        rw [cnt_eq s s.length hj hp.out (fun h => absurd h (by omega))]
      clear hp
      go_wp2
      go_ret
      exact ⟨ret_int e.out, rfl⟩
theorem count_digit (s : Tx) (hs : s.length ≤ 9223372036854775806) (w : World) : Calls Tryz.prog 74 #[str s, .func (.func 78) #[] #[]] w fun e w' => e = .returned (.int .i64 (cnt dig s : Int)) ∧ w' = w :=
  count_fn dig _ #[] e_digit (fun c w => digit_any c w) s hs w
theorem count_word (s : Tx) (hs : s.length ≤ 9223372036854775806) (w : World) : Calls Tryz.prog 74 #[str s, .func (.func 77) #[] #[]] w fun e w' => e = .returned (.int .i64 (cnt nmc s : Int)) ∧ w' = w :=
  count_fn nmc _ #[] e_ofWord (fun c w => ofWord_any c w) s hs w
theorem count_remark (s : Tx) (hs : s.length ≤ 9223372036854775806) (w : World) : Calls Tryz.prog 74 #[str s, .func (.func 75) #[] #[]] w fun e w' => e = .returned (.int .i64 (cnt rmk s : Int)) ∧ w' = w :=
  count_fn rmk _ #[] e_ofRemark (fun c w => ofRemark_any c w) s hs w
end Go.Proofs.YtjhodmpgggaknaaGreatDoor
/- Contract of between: blanks and remarks ahead of a token. -/
namespace Go.Proofs.YtjhodmpgggaknaaGreatDoor
open Go.RowKit Go.Shelf

theorem gap_at {s : Tx} {n : Nat} {c : UInt8} (hlt : n < s.length) (hcd : c = s.getD n 0) (hb : blk c = true) (h : gap s = n + gap (s.drop n)) : gap s = n + 1 + gap (s.drop (n + 1)) := by
  rw [drop_at hlt, ← hcd, gap_blank _ hb] at h
  omega
theorem gap_end {s : Tx} {n : Nat} {c : UInt8} (hlt : n < s.length) (hcd : c = s.getD n 0) (hb : blk c = false) (h35 : c ≠ 35) (h : gap s = n + gap (s.drop n)) : gap s = n := by
  rw [drop_at hlt, ← hcd, gap_stop _ hb h35] at h
  omega
theorem gap_note_at {s : Tx} {n : Nat} {c : UInt8} (hlt : n < s.length) (hcd : c = s.getD n 0) (h35 : c = 35) (h : gap s = n + gap (s.drop n)) : gap s = n + cnt rmk (s.drop n) + gap (s.drop (n + cnt rmk (s.drop n))) ∧ 0 < cnt rmk (s.drop n) := by
  have e := drop_at hlt
  rw [← hcd, h35] at e
  have g := gap_remark (s.drop (n + 1))
  rw [← e, List.drop_drop] at g
  refine ⟨by omega, ?_⟩
  rw [e, cnt_pos (by decide)]
  omega
set_option maxHeartbeats 1000000 in
theorem between_any (s : Tx) (hs : s.length ≤ 9223372036854775806) (w : World) : Calls Tryz.prog 56 #[str s] w fun e w' => e = .returned (.int .i64 (gap s : Int)) ∧ w' = w := by
  unfold str
  go_enter Tryz.func56, Tryz.ntmps56
  go_wp2
  go_loop [3] (fun iv => ∃ n : Nat, n ≤ s.length ∧ iv = .int .i64 (n : Int) ∧ Hid (gap s = n + gap (s.drop n))) (fun iv => s.length - (intOf iv).toNat)
  case atStart => exact ⟨0, by omega, rfl, by show gap s = 0 + gap (s.drop 0); simp⟩
  case round =>
    obtain ⟨n, hn, rfl, hg⟩ := hrel
    by_cases hlt : n < s.length
    · have hlt' : (n : Int) < (s.length : Int) := by omega
      have hget := get_at hlt
      obtain ⟨c, hcd⟩ : ∃ c, c = s.getD n 0 := ⟨_, rfl⟩
      rw [← hcd] at hget
      by_cases h32 : c.toNat = 32
      · have hc : c = 32 := UInt8.toNat_inj.1 h32
        have hg2 := hid (gap_at hlt hcd (by rw [hc]; decide) hg.out)
        have t32 : ((c.toNat : Int) == 32) = true := by simp; omega
        clear hc hcd hg h32
        go_wp2
        exact ⟨⟨n + 1, by omega, by go_num, hg2⟩, by simp [intOf]; omega⟩
      have t32 : ((c.toNat : Int) == 32) = false := by simp; omega
      by_cases h9 : c.toNat = 9
      · have hc : c = 9 := UInt8.toNat_inj.1 h9
        have hg2 := hid (gap_at hlt hcd (by rw [hc]; decide) hg.out)
        have t9 : ((c.toNat : Int) == 9) = true := by simp; omega
        clear hc hcd hg h9
        go_wp2
        exact ⟨⟨n + 1, by omega, by go_num, hg2⟩, by simp [intOf]; omega⟩
      have t9 : ((c.toNat : Int) == 9) = false := by simp; omega
      by_cases h10 : c.toNat = 10
      · have hc : c = 10 := UInt8.toNat_inj.1 h10
        have hg2 := hid (gap_at hlt hcd (by rw [hc]; decide) hg.out)
        have t10 : ((c.toNat : Int) == 10) = true := by simp; omega
        clear hc hcd hg h10
        go_wp2
        exact ⟨⟨n + 1, by omega, by go_num, hg2⟩, by simp [intOf]; omega⟩
      have t10 : ((c.toNat : Int) == 10) = false := by simp; omega
      by_cases h13 : c.toNat = 13
      · have hc : c = 13 := UInt8.toNat_inj.1 h13
        have hg2 := hid (gap_at hlt hcd (by rw [hc]; decide) hg.out)
        have t13 : ((c.toNat : Int) == 13) = true := by simp; omega
        clear hc hcd hg h13
        go_wp2
        exact ⟨⟨n + 1, by omega, by go_num, hg2⟩, by simp [intOf]; omega⟩
      have t13 : ((c.toNat : Int) == 13) = false := by simp; omega
      by_cases h35 : c.toNat = 35
      · have hc : c = 35 := UInt8.toNat_inj.1 h35
        obtain ⟨g2, gp⟩ := gap_note_at hlt hcd hc hg.out
        have hg2 := hid g2
        have t35 : ((c.toNat : Int) == 35) = true := by simp; omega
        have e2 := ext_from s n s.length rfl
        have hle := cnt_le rmk (s.drop n)
        have hlen : (s.drop n).length = s.length - n := by simp
        rw [hlen] at hle
        have hct := hid (count_remark (s.drop n) (by rw [hlen]; omega) w)
        have c3 : (0 : Int) ≤ (n : Int) := by omega
        have c4 : (n : Int) ≤ (s.length : Int) := by omega
        clear hlen
        generalize cnt rmk (s.drop n) = m at *
        have c5 : IntKind.i64.wrap ((n : Int) + (m : Int)) = (n : Int) + (m : Int) := by rw [IntKind.wrap_i64]; omega
        clear hc hcd hg h35 h32 h9 h10 h13 g2
        unfold str at hct
        go_wp2_with (go_at_call 74; refine hct.out.mono ?_; rintro e w' ⟨rfl, hw'⟩; have hw2 := hw'.symm; subst hw2)
        exact ⟨⟨n + m, by omega, by go_num, hg2⟩, by simp [intOf]; omega⟩
      have t35 : ((c.toNat : Int) == 35) = false := by simp; omega
      have e : Hid ((n : Int) = (gap s : Int)) := by
        unfold Hid
        rw [gap_end hlt hcd (by unfold blk; simp [h32, h9, h10, h13]) (fun e => h35 (by rw [e]; rfl)) hg.out]
      clear hcd hg h35 h32 h9 h10 h13
      go_wp2
      go_ret
      exact ⟨ret_int e.out, rfl⟩
    · have hlt' : ¬ (n : Int) < (s.length : Int) := by omega
      obtain rfl : n = s.length := by omega
      have e : Hid ((s.length : Int) = (gap s : Int)) := by
        unfold Hid
        have := hg.out
        rw [List.drop_length] at this
        rw [this]
        rfl
      clear hg
      go_wp2
      go_ret
      exact ⟨ret_int e.out, rfl⟩
end Go.Proofs.YtjhodmpgggaknaaGreatDoor
/- Contract of unquote: what stands in the quotes that a text begins with. -/
namespace Go.Proofs.YtjhodmpgggaknaaGreatDoor
open Go.RowKit Go.Shelf

/-- what unquote tells. -/
def unqV (s : Tx) : Option (Tx × Tx) → Value
  | none => .tuple #[str [], .int .i64 0]
  | some (v, r) => .tuple #[str v, .int .i64 ((s.length - r.length : Nat) : Int)]
set_option maxHeartbeats 4000000 in
theorem unquote_any (s : Tx) (w : World) (h0 : 0 < s.length) (hs : s.length ≤ 35184372088832) : Calls Tryz.prog 80 #[str s] w fun e w' => e = .returned (unqV s (unqP [] (s.drop 1))) ∧ Below w.heap.size w w' := by
  generalize hR : unqV s (unqP [] (s.drop 1)) = R
  replace hR := hid hR
  unfold str
  go_enter Tryz.func80, Tryz.ntmps80
  go_wp2
  go_loopw [4, 5] (fun bv iv wr => ∃ (i : Nat) (acc : Tx), i ≤ s.length ∧ acc.length ≤ i ∧ iv = .int .i64 (i : Int) ∧ Hid (unqV s (unqP acc (s.drop i)) = R) ∧ Hid (Own w.heap.size wr bv (ints acc)) ∧ Hid (Below w.heap.size w wr)) (fun _ iv _ => s.length - (intOf iv).toNat)
  case atStart => exact ⟨1, [], h0, by simp, rfl, hR, own_nil _ _, Below.refl _ _⟩
  case round =>
    obtain ⟨i, acc, hi, hal, rfl, hu, ho, hB⟩ := hrel
    clear hR
    obtain ⟨V, rfl⟩ : ∃ V : World, V = wr := ⟨_, rfl⟩
    by_cases hlt : i < s.length
    · have hlt' : (i : Int) < (s.length : Int) := by omega
      have hget := get_at hlt
      obtain ⟨c, hcd⟩ : ∃ c, c = s.getD i 0 := ⟨_, rfl⟩
      rw [← hcd] at hget
      have hdr := drop_at hlt
      rw [← hcd] at hdr
      have hcn := byte_lt c
      clear hcd
      obtain ⟨av, cv, rfl⟩ := ho.out.slice
      have hal2 : (ints acc).length ≤ 35184372088832 := by rw [ints_len]; omega
      have c5 : IntKind.i64.wrap ((i : Int) + 1) = (i : Int) + 1 := by rw [IntKind.wrap_i64]; omega
      by_cases h34 : c.toNat = 34
      · have t1 : ((c.toNat : Int) == 34) = true := by simp; omega
        have hc : c = 34 := UInt8.toNat_inj.1 h34
        have hR : Hid (Value.tuple #[.string ⟨acc.toArray⟩, .int .i64 ((i : Int) + 1)] = R) := by
          unfold Hid
          rw [← hu.out, hdr, hc, unqP_q]
          have : ((s.length - (s.drop (i + 1)).length : Nat) : Int) = (i : Int) + 1 := by simp; omega
          show _ = Value.tuple #[.string ⟨acc.toArray⟩, .int .i64 ((s.length - (s.drop (i + 1)).length : Nat) : Int)]
          rw [this]
        have hcv : (convert 89 9 (.slice av (ints acc).length cv)).run Tryz.prog V = .ok (.string ⟨acc.toArray⟩) V := by
          have := conv_str ho.out.isB
          rw [byts_ints] at this
          exact this
        clear h34 hu ho hdr hc
        generalize (ints acc).length = n at *
        go_wp2
        go_ret2
        exact ⟨congrArg Ending.returned hR.out, hB.out⟩
      have t1 : ((c.toNat : Int) == 34) = false := by simp; omega
      have h34' : c ≠ 34 := by rintro rfl; exact h34 rfl
      by_cases h92 : c.toNat = 92
      · have t2 : ((c.toNat : Int) == 92) = true := by simp; omega
        have hc : c = 92 := UInt8.toNat_inj.1 h92
        by_cases hend : i + 1 = s.length
        · have hR : Hid (Value.tuple #[.string ⟨#[]⟩, .int .i64 0] = R) := by
            unfold Hid
            rw [← hu.out, hdr, hc, List.drop_eq_nil_of_le (by omega), unqP_b0]
            rfl
          have t3 : ((i : Int) + 1 == (s.length : Int)) = true := by simp; omega
          clear hu ho hdr hc h92 h34 h34' hend
          go_wp2
          go_ret2
          exact ⟨congrArg Ending.returned hR.out, hB.out⟩
        · have t3 : ((i : Int) + 1 == (s.length : Int)) = false := by simp; omega
          have hlt2 : i + 1 < s.length := by omega
          have hlt2' : (i : Int) + 1 < (s.length : Int) := by omega
          have hget2 := get_at hlt2
          obtain ⟨d, hdd⟩ : ∃ d, d = s.getD (i + 1) 0 := ⟨_, rfl⟩
          rw [← hdd] at hget2
          have hdr2 := drop_at hlt2
          rw [← hdd] at hdr2
          clear hdd
          have c6 : IntKind.i64.wrap ((i : Int) + 1 + 1) = (i : Int) + 1 + 1 := by rw [IntKind.wrap_i64]; omega
          by_cases hd : d.toNat = 34 ∨ d.toNat = 92
          · have hsd : spc d = true := by
              unfold spc
              rcases hd with h | h <;> simp [h]
            obtain ⟨a1, c1, V1, hrun, o1, b1⟩ := push_run ho.out (d.toNat : Int) (byte_lt d) (by omega) hB.out.size
            have hu' : Hid (unqV s (unqP (acc ++ [d]) (s.drop (i + 1 + 1))) = R) := by
              unfold Hid
              rw [← hu.out, hdr, hc, hdr2, unqP_b _ _ hsd]
            have o1' : Hid (Own w.heap.size V1 (.slice a1 ((ints acc).length + 1) c1) (ints (acc ++ [d]))) := by
              unfold Hid
              rw [ints_app]
              exact o1
            have B1 := hid (hB.out.trans b1)
            have hal3 : (acc ++ [d]).length ≤ i + 1 + 1 := by simp; omega
            clear hu ho hdr hdr2 hc h92 h34 h34' hend o1 b1 hsd
            generalize (ints acc).length = n at *
            rcases hd with h | h
            · have u3 : ((d.toNat : Int) != 34) = false := by simp; omega
              clear h
              go_wp2_with (at_builtin; refine wpList_append_run _ rfl _ _ 89 rfl _ _ _ _ rfl rfl hrun ?_)
              exact ⟨⟨i + 1 + 1, acc ++ [d], by omega, hal3, by go_num, hu', o1', B1⟩, by simp [intOf]; omega⟩
            · have u3 : ((d.toNat : Int) != 34) = true := by simp; omega
              have u4 : ((d.toNat : Int) != 92) = false := by simp; omega
              clear h
              go_wp2_with (at_builtin; refine wpList_append_run _ rfl _ _ 89 rfl _ _ _ _ rfl rfl hrun ?_)
              exact ⟨⟨i + 1 + 1, acc ++ [d], by omega, hal3, by go_num, hu', o1', B1⟩, by simp [intOf]; omega⟩
          · have hsd : spc d = false := by
              unfold spc
              simp
              omega
            have u3 : ((d.toNat : Int) != 34) = true := by simp; omega
            have u4 : ((d.toNat : Int) != 92) = true := by simp; omega
            have hR : Hid (Value.tuple #[.string ⟨#[]⟩, .int .i64 0] = R) := by
              unfold Hid
              rw [← hu.out, hdr, hc, hdr2, unqP_bad _ _ hsd]
              rfl
            clear hu ho hdr hdr2 hc h92 h34 h34' hend hsd hd
            go_wp2
            go_ret2
            exact ⟨congrArg Ending.returned hR.out, hB.out⟩
      · have t2 : ((c.toNat : Int) == 92) = false := by simp; omega
        have h92' : c ≠ 92 := by rintro rfl; exact h92 rfl
        by_cases hv : 32 ≤ c.toNat ∧ c.toNat ≤ 126
        · have hv' : vlc c = true := by unfold vlc; simp [hv.1, hv.2]
          have t3 : ¬ (c.toNat : Int) < 32 := by omega
          have t4 : ¬ (126 : Int) < (c.toNat : Int) := by omega
          obtain ⟨a1, c1, V1, hrun, o1, b1⟩ := push_run ho.out (c.toNat : Int) (byte_lt c) (by omega) hB.out.size
          have hu' : Hid (unqV s (unqP (acc ++ [c]) (s.drop (i + 1))) = R) := by
            unfold Hid
            rw [← hu.out, hdr, unqP_c _ _ h34' h92' hv']
          have o1' : Hid (Own w.heap.size V1 (.slice a1 ((ints acc).length + 1) c1) (ints (acc ++ [c]))) := by
            unfold Hid
            rw [ints_app]
            exact o1
          have B1 := hid (hB.out.trans b1)
          have hal3 : (acc ++ [c]).length ≤ i + 1 := by simp; omega
          clear hu ho hdr h92 h92' h34 h34' o1 b1 hv hv'
          generalize (ints acc).length = n at *
          go_wp2_with (at_builtin; refine wpList_append_run _ rfl _ _ 89 rfl _ _ _ _ rfl rfl hrun ?_)
          exact ⟨⟨i + 1, acc ++ [c], by omega, hal3, by go_num, hu', o1', B1⟩, by simp [intOf]; omega⟩
        · have hv' : vlc c = false := by unfold vlc; simp; omega
          have hR : Hid (Value.tuple #[.string ⟨#[]⟩, .int .i64 0] = R) := by
            unfold Hid
            rw [← hu.out, hdr, unqP_v _ _ h34' h92' hv']
            rfl
          clear hu ho hdr h92 h92' h34 h34' hv'
          by_cases h3 : c.toNat < 32
          · have t3 : (c.toNat : Int) < 32 := by omega
            clear hv h3
            go_wp2
            go_ret2
            exact ⟨congrArg Ending.returned hR.out, hB.out⟩
          · have t3 : ¬ (c.toNat : Int) < 32 := by omega
            have t4 : (126 : Int) < (c.toNat : Int) := by omega
            clear hv h3
            go_wp2
            go_ret2
            exact ⟨congrArg Ending.returned hR.out, hB.out⟩
    · have hlt' : ¬ (i : Int) < (s.length : Int) := by omega
      have hR : Hid (Value.tuple #[.string ⟨#[]⟩, .int .i64 0] = R) := by
        unfold Hid
        rw [← hu.out, List.drop_eq_nil_of_le (by omega), unqP_nil]
        rfl
      clear hu
      go_wp2
      go_ret2
      exact ⟨congrArg Ending.returned hR.out, hB.out⟩
end Go.Proofs.YtjhodmpgggaknaaGreatDoor
