/- Contracts of Quote, of the document's Quote. -/
import Derived.Test.YthbdghbfhjimkaaR1
import Derived.Lib.AppendStr
namespace Go.Proofs.Ythbdghbfhjimkaa
open Go.RowKit Go.Shelf

theorem special_any (c : UInt8) (w : World) : Calls Try.prog 46 #[.int .u8 (c.toNat : Int)] w fun e w' => e = .returned (.bool (spc c)) ∧ w' = w := by
  by_cases h1 : c.toNat = 34
  · have h1' : ((c.toNat : Int) == 34) = true := by simp; omega
    have e : Hid (true = spc c) := by unfold Hid spc; simp [h1]
    clear h1
    go_enter Try.func46, Try.ntmps46
    go_wp2
    go_ret
    exact ⟨ret_bool e.out, rfl⟩
  · have h1' : ((c.toNat : Int) == 34) = false := by simp; omega
    have e : Hid ((c.toNat == 92) = spc c) := by
      unfold Hid spc
      rw [show (c.toNat == 34) = false by simpa using h1]
      rfl
    by_cases h2 : c.toNat = 92
    · have h2' : ((c.toNat : Int) == 92) = true := by simp; omega
      rw [show (c.toNat == 92) = true by simpa using h2] at e
      clear h1 h2
      go_enter Try.func46, Try.ntmps46
      go_wp2
      go_ret
      exact ⟨ret_bool e.out, rfl⟩
    · have h2' : ((c.toNat : Int) == 92) = false := by simp; omega
      rw [show (c.toNat == 92) = false by simpa using h2] at e
      clear h1 h2
      go_enter Try.func46, Try.ntmps46
      go_wp2
      go_ret
      exact ⟨ret_bool e.out, rfl⟩
theorem app_str (a b : Tx) : (⟨a.toArray⟩ : ByteArray) ++ ⟨b.toArray⟩ = ⟨(a ++ b).toArray⟩ := by
  apply ByteArray.ext
  simp
theorem ext_str (s : Tx) (i j : Nat) : (⟨s.toArray⟩ : ByteArray).extract i j = ⟨((s.take j).drop i).toArray⟩ := by
  apply ByteArray.ext
  apply Array.ext'
  simp [ByteArray.data_extract, List.drop_take]
theorem ext_one {s : Tx} {j : Nat} (h : j < s.length) : (⟨s.toArray⟩ : ByteArray).extract j (j + 1) = ⟨([s.getD j 0] : Tx).toArray⟩ := by
  rw [ext_str, List.take_succ_eq_append_getElem h, List.drop_append_of_le_length (by simp; omega), List.drop_eq_nil_of_le (by simp; omega)]
  simp [List.getD, List.getElem?_eq_getElem h]
theorem esc_take (s : Tx) {j : Nat} (h : j < s.length) : esc (s.take (j + 1)) = esc (s.take j) ++ esc1 (s.getD j 0) := by
  rw [List.take_succ_eq_append_getElem h, esc_app]
  simp [esc, List.getD, List.getElem?_eq_getElem h]
theorem byte_lt (c : UInt8) : 0 ≤ (c.toNat : Int) ∧ (c.toNat : Int) < 256 := by
  have := UInt8.toNat_lt c
  omega
set_option maxHeartbeats 2000000 in
theorem quote_any (s : Tx) (w : World) (hs : s.length ≤ 35184372088832) : Calls Try.prog 30 #[str s] w fun e w' => e = .returned (str (quote s)) ∧ Below w.heap.size w w' := by
  have hsp := hid special_any
  have ho0 : Own w.heap.size (w.alloc (.cells #[.int .u8 34] 5)) (.slice (some ⟨w.heap.size, 0, none⟩) 1 1) (34 :: ints (esc (s.take 0))) := own_new w _ [34] _ _ rfl rfl rfl (byt_one (by omega)) (by unfold maxLen; simp)
  unfold str
  go_enter Try.func30, Try.ntmps30
  go_wp2
  go_loopw [3, 8] (fun qv iv wr => ∃ j : Nat, j ≤ s.length ∧ iv = .int .i64 (j : Int) ∧ Hid (Own w.heap.size wr qv (34 :: ints (esc (s.take j)))) ∧ Hid (Below w.heap.size w wr)) (fun _ iv _ => s.length - (intOf iv).toNat)
  case atStart => exact ⟨0, by omega, rfl, ho0, alloc_below _ _⟩
  case round =>
    obtain ⟨j, hj, rfl, ho, hB⟩ := hrel
    obtain ⟨V, rfl⟩ : ∃ V : World, V = wr := ⟨_, rfl⟩
    clear ho0
    have hel := esc_len (s.take j)
    have hle : (34 :: ints (esc (s.take j))).length ≤ 70368744177665 := by
      rw [List.length_cons, ints_len]
      have : (s.take j).length ≤ s.length := by simp; omega
      omega
    by_cases hlt : j < s.length
    · have hlt' : (j : Int) < (s.length : Int) := by omega
      have hget := get_at hlt
      have het := esc_take s hlt
      obtain ⟨c, hcd⟩ : ∃ c, c = s.getD j 0 := ⟨_, rfl⟩
      rw [← hcd] at hget het
      obtain ⟨av, cv, rfl⟩ := ho.out.slice
      generalize hz : esc (s.take j) = z at *
      have het' := hid het
      clear hz hel hcd het
      cases hc : spc c
      · obtain ⟨a1, c1, V1, hrun, o1, b1⟩ := push_run ho.out (c.toNat : Int) (byte_lt c) (by omega) hB.out.size
        have o1' : Hid (Own w.heap.size V1 (.slice a1 ((34 :: ints z).length + 1) c1) (34 :: ints (esc (s.take (j + 1))))) := by
          unfold Hid
          rw [het'.out]
          unfold esc1
          rw [hc, if_neg (by simp), ints_app]
          exact o1
        have B1 := hid (hB.out.trans b1)
        clear o1 b1 ho
        generalize (34 :: ints z).length = n at *
        go_wp2_with (first | (go_at_call 46; refine (hsp.out _ _).mono ?_; rintro e w' ⟨rfl, rfl⟩) | (at_builtin; refine wpList_append_run _ rfl _ _ 62 rfl _ _ _ _ rfl rfl hrun ?_))
        exact ⟨⟨j + 1, by omega, by go_num, o1', B1⟩, by simp [intOf]; omega⟩
      · obtain ⟨a1, c1, V1, hrun, o1, b1⟩ := push_run ho.out 92 (by omega) (by omega) hB.out.size
        have o1l : (34 :: ints z ++ [92]).length = (34 :: ints z).length + 1 := by simp
        obtain ⟨a2, c2, V2, hrun2, o2, b2⟩ := push_run o1 (c.toNat : Int) (byte_lt c) (by rw [o1l]; omega) (hB.out.trans b1).size
        rw [o1l] at hrun2 o2
        have o2' : Hid (Own w.heap.size V2 (.slice a2 ((34 :: ints z).length + 1 + 1) c2) (34 :: ints (esc (s.take (j + 1))))) := by
          unfold Hid
          rw [het'.out]
          unfold esc1
          rw [hc, if_pos rfl, ints_app]
          have e : (34 :: (ints z ++ ints [92, c]) : List Int) = (34 :: ints z ++ [92]) ++ [(c.toNat : Int)] := by simp [ints]
          rw [e]
          exact o2
        have B2 := hid ((hB.out.trans b1).trans b2)
        clear o1 b1 ho o2 b2 o1l
        generalize (34 :: ints z).length = n at *
        go_wp2_with (first | (go_at_call 46; refine (hsp.out _ _).mono ?_; rintro e w' ⟨rfl, rfl⟩) | (at_builtin; refine wpList_append_run _ rfl _ _ 62 rfl _ _ _ _ rfl rfl hrun ?_; clear hrun) | (at_builtin; refine wpList_append_run _ rfl _ _ 62 rfl _ _ _ _ rfl rfl hrun2 ?_))
        exact ⟨⟨j + 1, by omega, by go_num, o2', B2⟩, by simp [intOf]; omega⟩
    · have hlt' : ¬ (j : Int) < (s.length : Int) := by omega
      obtain rfl : j = s.length := by omega
      obtain ⟨av, cv, rfl⟩ := ho.out.slice
      obtain ⟨a1, c1, V1, hrun, o1, b1⟩ := push_run ho.out 34 (by omega) (by omega) hB.out.size
      have B1 := hid (hB.out.trans b1)
      have hcv := conv_str o1.isB
      have e : Hid (byts (34 :: ints (esc (s.take s.length)) ++ [34]) = quote s) := by
        unfold Hid
        rw [List.take_length]
        have : (34 :: ints (esc s) ++ [34] : List Int) = ints (quote s) := by simp [ints, quote]
        rw [this, byts_ints]
      rw [e.out] at hcv
      clear o1 b1 ho e hel
      generalize (34 :: ints (esc (s.take s.length))).length = n at *
      go_wp2_with (at_builtin; refine wpList_append_run _ rfl _ _ 62 rfl _ _ _ _ rfl rfl hrun ?_)
      go_ret
      exact ⟨rfl, B1.out⟩
set_option maxHeartbeats 1000000 in
theorem rquote_any (s : Tx) (w : World) (hs : s.length ≤ 35184372088832) : Calls Try.prog 33 #[str s] w fun e w' => e = .returned (str (quote s)) ∧ w' = w := by
  unfold str
  go_enter Try.func33, Try.ntmps33
  go_wp2
  go_loop [3, 4] (fun sv iv => ∃ (j : Nat) (z : Tx), j ≤ s.length ∧ iv = .int .i64 (j : Int) ∧ sv = .string ⟨z.toArray⟩ ∧ Hid (z = 34 :: esc (s.take j))) (fun _ iv => s.length - (intOf iv).toNat)
  case atStart => exact ⟨0, [34], by omega, rfl, rfl, rfl⟩
  case round =>
    obtain ⟨j, z, hj, rfl, rfl, hz⟩ := hrel
    have hzl : z.length ≤ 70368744177665 := by
      have hel := esc_len (s.take j)
      rw [hz.out, List.length_cons]
      have : (s.take j).length ≤ s.length := by simp; omega
      omega
    by_cases hlt : j < s.length
    · have hlt' : (j : Int) < (s.length : Int) := by omega
      have hget := get_at hlt
      have het := esc_take s hlt
      obtain ⟨c, hcd⟩ : ∃ c, c = s.getD j 0 := ⟨_, rfl⟩
      rw [← hcd] at hget het
      have het' := hid het
      clear het
      have hx := ext_one hlt
      rw [← hcd] at hx
      have hx' := hid hx
      clear hcd hx
      by_cases h34 : c.toNat = 34 ∨ c.toNat = 92
      · have hc : spc c = true := by
          unfold spc
          rcases h34 with h | h <;> simp [h]
        have hnew : Hid (Value.string (⟨z.toArray⟩ ++ ⟨#[92]⟩ ++ (⟨s.toArray⟩ : ByteArray).extract j (j + 1)) = .string ⟨(z ++ esc1 c).toArray⟩) := by
          unfold Hid
          rw [hx'.out, show (⟨#[92]⟩ : ByteArray) = ⟨([92] : Tx).toArray⟩ from rfl, app_str, app_str]
          unfold esc1
          rw [hc, if_pos rfl]
          simp
        have hz' : Hid (z ++ esc1 c = 34 :: esc (s.take (j + 1))) := by
          unfold Hid
          rw [het'.out, hz.out]; rfl
        clear hz het' hc
        rcases h34 with h | h
        · have t1 : ((c.toNat : Int) == 34) = true := by simp; omega
          clear h
          go_wp2
          exact ⟨⟨j + 1, _, by omega, by go_num, hnew.out, hz'⟩, by simp [intOf]; omega⟩
        · have t1 : ((c.toNat : Int) == 34) = false := by simp; omega
          have t2 : ((c.toNat : Int) == 92) = true := by simp; omega
          clear h
          go_wp2
          exact ⟨⟨j + 1, _, by omega, by go_num, hnew.out, hz'⟩, by simp [intOf]; omega⟩
      · have hc : spc c = false := by
          unfold spc
          simp
          omega
        have t1 : ((c.toNat : Int) == 34) = false := by simp; omega
        have t2 : ((c.toNat : Int) == 92) = false := by simp; omega
        have hnew : Hid (Value.string (⟨z.toArray⟩ ++ (⟨s.toArray⟩ : ByteArray).extract j (j + 1)) = .string ⟨(z ++ esc1 c).toArray⟩) := by
          unfold Hid
          rw [hx'.out, app_str]
          unfold esc1
          rw [hc, if_neg (by simp)]
        have hz' : Hid (z ++ esc1 c = 34 :: esc (s.take (j + 1))) := by
          unfold Hid
          rw [het'.out, hz.out]; rfl
        clear hz het' hc h34
        go_wp2
        exact ⟨⟨j + 1, _, by omega, by go_num, hnew.out, hz'⟩, by simp [intOf]; omega⟩
    · have hlt' : ¬ (j : Int) < (s.length : Int) := by omega
      obtain rfl : j = s.length := by omega
      have hnew : Hid (Value.string (⟨z.toArray⟩ ++ ⟨#[34]⟩) = .string ⟨(quote s).toArray⟩) := by
        unfold Hid
        rw [show (⟨#[34]⟩ : ByteArray) = ⟨([34] : Tx).toArray⟩ from rfl, app_str, hz.out, List.take_length]
        rfl
      clear hz
      go_wp2
      go_ret
      exact ⟨congrArg Ending.returned hnew.out, rfl⟩
end Go.Proofs.Ythbdghbfhjimkaa
