import Derived.Test.YtjhodmpgggaknaaGreatDoorZNArith
import Derived.Test.YtjhodmpgggaknaaGreatDoorZShelf
import Derived.Lib.AppendIntMem
/- The contract of Print: for any number it returns the text that the plain function says; nothing that was in memory turns. Condition: the library's table of powers of ten lies as its text lays it. -/
namespace Go.Proofs.YtjhodmpgggaknaaGreatDoor.Num
open Go.RowKit

def Tab (w : World) : Prop := Lib.TabIs Tryz.prog w "internal/strconv.uint64pow10" .u64 Lib.pow10Tab
theorem Tab.later {w w' : World} (h : Tab w) (hb : Below w.heap.size w w') : Tab w' := Lib.tabBelow_of_tabIs h w' hb

theorem fmt_any (n : Int) (h0 : 0 ≤ n) (h1 : n ≤ 9223372036854775807) (w : World) (ht : Tab w) :
    Calls Tryz.prog 95 #[.int .i64 n, .int .i64 10] w fun e w' => e = .returned (.string ⟨(Lib.decDigits n.toNat).toArray⟩) ∧ Below w.heap.size w w' := by
  refine (Tryz.strconv_FormatInt_10 n (by omega) h1 w ht).mono ?_
  rintro e w' ⟨rfl, k, os, rfl⟩
  refine ⟨?_, Lib.below_grow _ _ (Nat.le_refl _) _ _⟩
  rw [show Lib.itoa n = Lib.decDigits n.toNat by unfold Lib.itoa; rw [if_neg (by omega)]]

theorem below_two {w w1 w2 : World} (h1 : Below w.heap.size w w1) (h2 : Below w1.heap.size w1 w2) : Below w.heap.size w w2 := h1.trans (h2.mono h1.size)

theorem sat_is {x m : Int} (h : sat x = m) (w : World) : Calls Tryz.prog 52 #[.int .i64 x] w fun e w' => e = .returned (.int .i64 m) ∧ w' = w := by
  subst h; exact sat_any x w

theorem bytes_app (a b : List UInt8) : (⟨a.toArray⟩ ++ ⟨b.toArray⟩ : ByteArray) = ⟨(a ++ b).toArray⟩ := by
  rw [ByteArray.mk_append_mk]
theorem bytes_none (b : ByteArray) : (⟨#[]⟩ ++ b : ByteArray) = b := by
  have := bytes_app [] b.data.toList
  simpa using this
theorem bytes_one (c : UInt8) : (⟨#[c]⟩ : ByteArray) = ⟨[c].toArray⟩ := rfl
theorem ret_str {a b : ByteArray} (h : a = b) : Ending.returned (.string a) = .returned (.string b) := by rw [h]
theorem bytes_drop (l : List UInt8) : (⟨l.toArray⟩ : ByteArray).extract 1 l.length = ⟨(l.tail).toArray⟩ := by
  apply ByteArray.ext
  apply Array.ext'
  simp [ByteArray.data_extract]
  exact List.take_of_length_le (by simp)

theorem trim_any (l : List UInt8) (w : World) (h : l.length ≤ 20) :
    Calls Tryz.prog 96 #[.string ((⟨l.toArray⟩ : ByteArray).extract 1 l.length), .string ⟨#[48]⟩] w fun e w' => e = .returned (.string ⟨(Lib.trimRightB (l.tail) 48).toArray⟩) ∧ w' = w := by
  rw [bytes_drop]
  exact Tryz.strings_TrimRight_one ⟨(l.tail).toArray⟩ 48 (by decide) w (by show (l.tail).toArray.size ≤ _; simp; omega)

set_option maxHeartbeats 400000 in
theorem print_neg_part (x m : Int) (w : World) (ht : Tab w) (hm : sat x = -m) (h0 : 0 < m) (h1 : m ≤ 4611686018427387903) (hp : 0 < m % 1000) :
    Calls Tryz.prog 69 #[.int .i64 x] w fun e w' => e = .returned (.string ⟨(printL x).toArray⟩) ∧ Below w.heap.size w w' := by
  have HM : Hid (sat x = -m) := hm
  have HT : Hid (printL x = 45 :: digitsOf m) := by
    show printL x = _
    unfold printL; rw [hm, if_pos (by omega), Int.neg_neg]
  have HD : Hid (digitsOf m = Lib.decDigits (m / 1000).toNat ++ 46 :: Lib.trimRightB (Lib.decDigits (1000 + m % 1000).toNat).tail 48) := by
    show digitsOf m = _
    unfold digitsOf; rw [if_pos hp]
  clear hm
  have d1 := dec_len (m / 1000).toNat (by omega)
  have d2 := dec_len (1000 + m % 1000).toNat (by omega)
  have d3 := dec_len_pos (1000 + m % 1000).toNat
  have d4 := trim_len (Lib.decDigits (1000 + m % 1000).toNat).tail 48
  rw [List.length_tail] at d4
  go_enter Tryz.func69, Tryz.ntmps69
  go_wp2_with (go_at_call 52; refine (sat_is HM.out _).mono ?_; rintro e w' ⟨rfl, rfl⟩)
  refine (fmt_any _ (by omega) (by omega) _ ht).mono ?_
  rintro e w1 ⟨rfl, hb1⟩
  have ht1 := ht.later hb1
  go_wp2_with fail
  refine (fmt_any _ (by omega) (by omega) _ ht1).mono ?_
  rintro e w2 ⟨rfl, hb2⟩
  go_wp2_with fail
  refine (trim_any _ _ d2).mono ?_
  rintro e w3 ⟨rfl, rfl⟩
  go_wp2
  go_ret
  exact ⟨ret_str (by rw [HT.out, HD.out, bytes_one 45, bytes_one 46, bytes_app, bytes_app, bytes_app]; simp only [List.cons_append, List.nil_append]), below_two hb1 hb2⟩

set_option maxHeartbeats 400000 in
theorem print_neg_whole (x m : Int) (w : World) (ht : Tab w) (hm : sat x = -m) (h0 : 0 < m) (h1 : m ≤ 4611686018427387903) (hp : ¬ 0 < m % 1000) :
    Calls Tryz.prog 69 #[.int .i64 x] w fun e w' => e = .returned (.string ⟨(printL x).toArray⟩) ∧ Below w.heap.size w w' := by
  have HM : Hid (sat x = -m) := hm
  have HT : Hid (printL x = 45 :: digitsOf m) := by
    show printL x = _
    unfold printL; rw [hm, if_pos (by omega), Int.neg_neg]
  have HD : Hid (digitsOf m = Lib.decDigits (m / 1000).toNat) := by
    show digitsOf m = _
    unfold digitsOf; rw [if_neg hp, List.append_nil]
  clear hm
  have d1 := dec_len (m / 1000).toNat (by omega)
  go_enter Tryz.func69, Tryz.ntmps69
  go_wp2_with (go_at_call 52; refine (sat_is HM.out _).mono ?_; rintro e w' ⟨rfl, rfl⟩)
  refine (fmt_any _ (by omega) (by omega) _ ht).mono ?_
  rintro e w1 ⟨rfl, hb1⟩
  have ht1 := ht.later hb1
  go_wp2
  go_ret
  exact ⟨ret_str (by rw [HT.out, HD.out, bytes_one 45, bytes_app]; simp only [List.cons_append, List.nil_append]), hb1⟩

set_option maxHeartbeats 400000 in
theorem print_pos_part (x m : Int) (w : World) (ht : Tab w) (hm : sat x = m) (h0 : 0 ≤ m) (h1 : m ≤ 4611686018427387903) (hp : 0 < m % 1000) :
    Calls Tryz.prog 69 #[.int .i64 x] w fun e w' => e = .returned (.string ⟨(printL x).toArray⟩) ∧ Below w.heap.size w w' := by
  have HM : Hid (sat x = m) := hm
  have HT : Hid (printL x = digitsOf m) := by
    show printL x = _
    unfold printL; rw [hm, if_neg (by omega)]
  have HD : Hid (digitsOf m = Lib.decDigits (m / 1000).toNat ++ 46 :: Lib.trimRightB (Lib.decDigits (1000 + m % 1000).toNat).tail 48) := by
    show digitsOf m = _
    unfold digitsOf; rw [if_pos hp]
  clear hm
  have d1 := dec_len (m / 1000).toNat (by omega)
  have d2 := dec_len (1000 + m % 1000).toNat (by omega)
  have d3 := dec_len_pos (1000 + m % 1000).toNat
  have d4 := trim_len (Lib.decDigits (1000 + m % 1000).toNat).tail 48
  rw [List.length_tail] at d4
  go_enter Tryz.func69, Tryz.ntmps69
  go_wp2_with (go_at_call 52; refine (sat_is HM.out _).mono ?_; rintro e w' ⟨rfl, rfl⟩)
  refine (fmt_any _ (by omega) (by omega) _ ht).mono ?_
  rintro e w1 ⟨rfl, hb1⟩
  have ht1 := ht.later hb1
  go_wp2_with fail
  refine (fmt_any _ (by omega) (by omega) _ ht1).mono ?_
  rintro e w2 ⟨rfl, hb2⟩
  go_wp2_with fail
  refine (trim_any _ _ d2).mono ?_
  rintro e w3 ⟨rfl, rfl⟩
  go_wp2
  go_ret
  exact ⟨ret_str (by rw [HT.out, HD.out, bytes_none, bytes_one 46, bytes_app [46], bytes_app]; rfl), below_two hb1 hb2⟩

set_option maxHeartbeats 400000 in
theorem print_pos_whole (x m : Int) (w : World) (ht : Tab w) (hm : sat x = m) (h0 : 0 ≤ m) (h1 : m ≤ 4611686018427387903) (hp : ¬ 0 < m % 1000) :
    Calls Tryz.prog 69 #[.int .i64 x] w fun e w' => e = .returned (.string ⟨(printL x).toArray⟩) ∧ Below w.heap.size w w' := by
  have HM : Hid (sat x = m) := hm
  have HT : Hid (printL x = digitsOf m) := by
    show printL x = _
    unfold printL; rw [hm, if_neg (by omega)]
  have HD : Hid (digitsOf m = Lib.decDigits (m / 1000).toNat) := by
    show digitsOf m = _
    unfold digitsOf; rw [if_neg hp, List.append_nil]
  clear hm
  have d1 := dec_len (m / 1000).toNat (by omega)
  go_enter Tryz.func69, Tryz.ntmps69
  go_wp2_with (go_at_call 52; refine (sat_is HM.out _).mono ?_; rintro e w' ⟨rfl, rfl⟩)
  refine (fmt_any _ (by omega) (by omega) _ ht).mono ?_
  rintro e w1 ⟨rfl, hb1⟩
  have ht1 := ht.later hb1
  go_wp2
  go_ret
  exact ⟨ret_str (by rw [HT.out, HD.out, bytes_none]), hb1⟩

theorem print_any (x : Int) (w : World) (ht : Tab w) :
    Calls Tryz.prog 69 #[.int .i64 x] w fun e w' => e = .returned (.string ⟨(printL x).toArray⟩) ∧ Below w.heap.size w w' := by
  have b1 := sat_lo x
  have b2 := sat_hi x
  by_cases hneg : sat x < 0
  · by_cases hp : 0 < -sat x % 1000
    · exact print_neg_part x (-sat x) w ht (Int.neg_neg _).symm (by omega) (by omega) hp
    · exact print_neg_whole x (-sat x) w ht (Int.neg_neg _).symm (by omega) (by omega) hp
  · by_cases hp : 0 < sat x % 1000
    · exact print_pos_part x (sat x) w ht rfl (by omega) b2 hp
    · exact print_pos_whole x (sat x) w ht rfl (by omega) b2 hp
end Go.Proofs.YtjhodmpgggaknaaGreatDoor.Num
