/- Joined: C1 C2 C3. -/
import Derived.Test.YtjhodmpgggaknaaGreatDoorZGR
import Derived.Test.YtjhodmpgggaknaaGreatDoorZGB
import Derived.Shelf.Abstract
import Derived.WalkMore
/- Contracts: which bytes a letter, a digit, a word, a remark has; count over any of them. -/
namespace Go.Proofs.YtjhodmpgggaknaaGreatDoor
open Go.RowKit Go.Shelf

theorem ret_bool {a b : Bool} (h : a = b) : Ending.returned (.bool a) = .returned (.bool b) := by rw [h]
theorem size_of (s : Tx) : (⟨s.toArray⟩ : ByteArray).size = s.length := by simp [ByteArray.size]
theorem get_at {s : Tx} {j : Nat} (h : j < s.length) : (⟨s.toArray⟩ : ByteArray)[j]'(by rw [size_of]; exact h) = s.getD j 0 := by
  simp [List.getD, List.getElem?_eq_getElem h, ByteArray.getElem_eq_getElem_data]
theorem drop_at {s : Tx} {i : Nat} (h : i < s.length) : s.drop i = s.getD i 0 :: s.drop (i + 1) := by
  rw [List.drop_eq_getElem_cons h]
  simp [List.getD, List.getElem?_eq_getElem h]
theorem app_str (a b : Tx) : (⟨a.toArray⟩ : ByteArray) ++ ⟨b.toArray⟩ = ⟨(a ++ b).toArray⟩ := by
  apply ByteArray.ext
  simp
theorem ext_str (s : Tx) (i j : Nat) : (⟨s.toArray⟩ : ByteArray).extract i j = ⟨((s.take j).drop i).toArray⟩ := by
  apply ByteArray.ext
  apply Array.ext'
  simp [ByteArray.data_extract, List.drop_take]
theorem ext_one {s : Tx} {j : Nat} (h : j < s.length) : (⟨s.toArray⟩ : ByteArray).extract j (j + 1) = ⟨([s.getD j 0] : Tx).toArray⟩ := by
  rw [ext_str, List.take_succ_eq_append_getElem h, List.drop_append_of_le_length (by simp; omega), List.drop_eq_nil_of_le (by simp; omega)]
  simp [List.getD, List.getElem?_eq_getElem h]
theorem ext_from (s : Tx) (i n : Nat) (hn : n = s.length) : (⟨s.toArray⟩ : ByteArray).extract i n = ⟨(s.drop i).toArray⟩ := by
  subst hn; rw [ext_str, List.take_length]
theorem ext_to (s : Tx) (j : Nat) : (⟨s.toArray⟩ : ByteArray).extract 0 j = ⟨(s.take j).toArray⟩ := by
  rw [ext_str, List.drop_zero]
theorem byte_lt (c : UInt8) : 0 ≤ (c.toNat : Int) ∧ (c.toNat : Int) < 256 := by
  have := UInt8.toNat_lt c
  omega
set_option maxHeartbeats 400000 in
theorem letter_any (c : UInt8) (w : World) : Calls Tryz.prog 76 #[.int .u8 (c.toNat : Int)] w fun e w' => e = .returned (.bool (low c)) ∧ w' = w := by
  have hl : Hid (low c = (decide (97 ≤ c.toNat) && decide (c.toNat ≤ 122))) := rfl
  generalize low c = b at *
  by_cases h1 : 97 ≤ c.toNat
  · have h1' : (97 : Int) ≤ (c.toNat : Int) := by omega
    by_cases h2 : c.toNat ≤ 122
    · have h2' : (c.toNat : Int) ≤ 122 := by omega
      have e := hl.out
      rw [decide_eq_true h1, decide_eq_true h2] at e
      subst e
      clear hl h1 h2
      go_enter Tryz.func76, Tryz.ntmps76
      go_wp2
      go_ret
      exact ⟨rfl, rfl⟩
    · have h2' : ¬ (c.toNat : Int) ≤ 122 := by omega
      have e := hl.out
      rw [decide_eq_true h1, decide_eq_false h2] at e
      subst e
      clear hl h1 h2
      go_enter Tryz.func76, Tryz.ntmps76
      go_wp2
      go_ret
      exact ⟨rfl, rfl⟩
  · have h1' : ¬ (97 : Int) ≤ (c.toNat : Int) := by omega
    have e := hl.out
    rw [decide_eq_false h1] at e
    subst e
    clear hl h1
    go_enter Tryz.func76, Tryz.ntmps76
    go_wp2
    go_ret
    exact ⟨rfl, rfl⟩
end Go.Proofs.YtjhodmpgggaknaaGreatDoor
/- Contract of between: blanks and remarks ahead of a token. -/
namespace Go.Proofs.YtjhodmpgggaknaaGreatDoor
open Go.RowKit Go.Shelf

end Go.Proofs.YtjhodmpgggaknaaGreatDoor
/- Contract of unquote: what stands in the quotes that a text begins with. -/
namespace Go.Proofs.YtjhodmpgggaknaaGreatDoor
open Go.RowKit Go.Shelf

end Go.Proofs.YtjhodmpgggaknaaGreatDoor
