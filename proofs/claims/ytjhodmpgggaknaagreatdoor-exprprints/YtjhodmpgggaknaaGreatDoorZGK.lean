/- Joined: R1 Q1 V1 U3 U4. -/
import Derived.Test.YtjhodmpgggaknaaGreatDoorZGJ
import Derived.Lib.AppendStr
import Derived.Test.YtjhodmpgggaknaaGreatDoorZShelf
import Derived.Deep.OwnRows
import Derived.Deep.RegionHeld3
/- Contracts of the document's own MayName, MayValue, Value, Same, Copy. -/
namespace Go.Proofs.YtjhodmpgggaknaaGreatDoor.Mat
open Go.RowKit Go.Shelf

theorem vlc_no {c : UInt8} (h : (c.toNat : Int) < 32 ∨ 126 < (c.toNat : Int)) : vlc c = false := by
  unfold vlc
  simp
  omega
theorem vlc_ok {c : UInt8} (h : ¬ (c.toNat : Int) < 32 ∧ ¬ 126 < (c.toNat : Int)) : vlc c = true := by
  unfold vlc
  simp
  omega
theorem nmc_no {c : UInt8} (h : ¬ (97 ≤ (c.toNat : Int) ∧ (c.toNat : Int) ≤ 122) ∧ ¬ (48 ≤ (c.toNat : Int) ∧ (c.toNat : Int) ≤ 57) ∧ (c.toNat : Int) ≠ 95) : nmc c = false := by
  unfold nmc low
  simp
  omega
theorem nmc_ok {c : UInt8} (h : (97 ≤ (c.toNat : Int) ∧ (c.toNat : Int) ≤ 122) ∨ (48 ≤ (c.toNat : Int) ∧ (c.toNat : Int) ≤ 57) ∨ (c.toNat : Int) = 95) : nmc c = true := by
  unfold nmc low
  simp
  omega
set_option maxHeartbeats 1000000 in
theorem plain_any (s : Tx) (hs : s.length ≤ 9223372036854775807) (w : World) : Calls Tryz.prog 59 #[str s] w fun e w' => e = .returned (.bool (s.all vlc)) ∧ w' = w := by
  unfold str
  go_enter Tryz.func59, Tryz.ntmps59
  go_wp2
  go_loop [3] (fun iv => ∃ j : Nat, j ≤ s.length ∧ iv = .int .i64 j ∧ Hid (∀ i, i < j → vlc (s.getD i 0) = true)) (fun iv => s.length - (intOf iv).toNat)
  case atStart => exact ⟨0, by omega, rfl, fun i hi => by omega⟩
  case round =>
    obtain ⟨j, hj, rfl, hp⟩ := hrel
    by_cases hlt : j < s.length
    · have hlt' : (j : Int) < (s.length : Int) := by omega
      have hget := get_at hlt
      obtain ⟨c, hcd⟩ : ∃ c, c = s.getD j 0 := ⟨_, rfl⟩
      rw [← hcd] at hget
      have hcm : c ∈ s := by rw [hcd]; simp [List.getD, List.getElem?_eq_getElem hlt]
      have hbad : vlc c = false → Hid (false = s.all vlc) := fun hf => by
        unfold Hid
        rw [List.all_eq_false.2 ⟨c, hcm, by rw [hf]; simp⟩]
      have hgood : vlc c = true → Hid (∀ i, i < j + 1 → vlc (s.getD i 0) = true) := fun hf i hi => by
        by_cases h : i = j
        · subst h; rw [← hcd]; exact hf
        · exact hp.out i (by omega)
      replace hbad := hid hbad
      replace hgood := hid hgood
      clear hp hcd hcm
      go_wp2
      all_goals first
        | (have e := hbad.out (vlc_no (by omega))
           go_ret
           exact ⟨ret_bool e.out, rfl⟩)
        | (have e := hgood.out (vlc_ok (by omega))
           exact ⟨⟨j + 1, by omega, by go_num, e⟩, by simp [intOf]; omega⟩)
    · have hlt' : ¬ (j : Int) < (s.length : Int) := by omega
      obtain rfl : j = s.length := by omega
      have e : Hid (true = s.all vlc) := by
        unfold Hid
        symm
        rw [List.all_eq_true]
        intro c hc
        obtain ⟨i, hi⟩ := List.mem_iff_getElem?.1 hc
        have := hp.out i (List.getElem?_eq_some_iff.1 hi).1
        simpa [List.getD, hi] using this
      clear hp
      go_wp2
      go_ret
      exact ⟨ret_bool e.out, rfl⟩
theorem mayN_false {s : Tx} (h : mayB 16 nmc s = false ∨ low (s.headD 0) = false) : Hid (false = mayN s) := by
  unfold Hid mayN
  rcases h with h | h
  · rw [h]; rfl
  · rw [h]; simp
set_option maxHeartbeats 1000000 in
theorem rmayName_any (s : Tx) (hs : s.length ≤ 9223372036854775807) (w : World) : Calls Tryz.prog 106 #[str s] w fun e w' => e = .returned (.bool (mayN s)) ∧ w' = w := by
  unfold str
  by_cases h0 : s.length = 0
  · obtain rfl := List.eq_nil_of_length_eq_zero h0
    go_enter Tryz.func106, Tryz.ntmps106
    go_wp2
    go_ret
    exact ⟨rfl, rfl⟩
  have d1 : decide ((s.length : Int) < 1) = false := by simp; omega
  by_cases h16 : 16 < s.length
  · have d2 : decide (16 < (s.length : Int)) = true := by simp; omega
    have d2' : decide (16 < s.length) = true := by simp; omega
    have e : Hid (false = mayN s) := mayN_false (.inl (by unfold mayB; rw [decide_eq_false (by omega : ¬ s.length ≤ 16)]; simp))
    clear h0
    go_enter Tryz.func106, Tryz.ntmps106
    go_wp2
    go_ret
    exact ⟨ret_bool e.out, rfl⟩
  have d2 : decide (16 < (s.length : Int)) = false := by simp; omega
  have d2' : decide (16 < s.length) = false := by simp; omega
  have hget := get_at (s := s) (j := 0) (by omega)
  obtain ⟨c, hcd⟩ : ∃ c, c = s.getD 0 0 := ⟨_, rfl⟩
  rw [← hcd] at hget
  have hh : s.headD 0 = c := by
    rw [hcd]
    cases s <;> simp
  have hl0 : (0 : Int) < (s.length : Int) := by omega
  have hl0' : 0 < s.length := by omega
  cases hlo : low c
  · have e : Hid (false = mayN s) := mayN_false (.inr (by rw [hh]; exact hlo))
    have hcc : c.toNat < 97 ∨ 122 < c.toNat := by
      unfold low at hlo
      simp at hlo
      omega
    clear hh hlo hcd
    rcases hcc with h | h
    · have h' : decide ((c.toNat : Int) < 97) = true := by simp; omega
      clear h
      go_enter Tryz.func106, Tryz.ntmps106
      go_wp2
      go_ret
      exact ⟨ret_bool e.out, rfl⟩
    · have h' : decide (122 < (c.toNat : Int)) = true := by simp; omega
      have h'' : decide ((c.toNat : Int) < 97) = false := by simp; omega
      clear h
      go_enter Tryz.func106, Tryz.ntmps106
      go_wp2
      go_ret
      exact ⟨ret_bool e.out, rfl⟩
  have d3 : decide ((c.toNat : Int) < 97) = false := by
    unfold low at hlo
    simp at hlo ⊢
    omega
  have d4 : decide (122 < (c.toNat : Int)) = false := by
    unfold low at hlo
    simp at hlo ⊢
    omega
  have hm : Hid (mayB 16 nmc s = mayN s) := by unfold Hid mayN; rw [hh, hlo]; simp
  have hne : Hid (s ≠ [] ∧ s.length ≤ 16) := ⟨by rintro rfl; simp at h0, by omega⟩
  clear hlo hh hcd
  go_enter Tryz.func106, Tryz.ntmps106
  go_wp2
  go_loop [3] (fun iv => ∃ j : Nat, j ≤ s.length ∧ iv = .int .i64 j ∧ Hid (∀ i, i < j → nmc (s.getD i 0) = true)) (fun iv => s.length - (intOf iv).toNat)
  case atStart => exact ⟨0, by omega, rfl, fun i hi => by omega⟩
  case round =>
    obtain ⟨j, hj, rfl, hp⟩ := hrel
    by_cases hlt : j < s.length
    · have hlt' : (j : Int) < (s.length : Int) := by omega
      clear hget
      have hget := get_at hlt
      obtain ⟨x, hcd⟩ : ∃ c, c = s.getD j 0 := ⟨_, rfl⟩
      rw [← hcd] at hget
      have hcm : x ∈ s := by rw [hcd]; simp [List.getD, List.getElem?_eq_getElem hlt]
      have hbad : nmc x = false → Hid (false = mayN s) := fun hf => by
        unfold Hid
        rw [← hm.out]
        unfold mayB
        rw [List.all_eq_false.2 ⟨x, hcm, by rw [hf]; simp⟩]
        simp
      have hgood : nmc x = true → Hid (∀ i, i < j + 1 → nmc (s.getD i 0) = true) := fun hf i hi => by
        by_cases h : i = j
        · subst h; rw [← hcd]; exact hf
        · exact hp.out i (by omega)
      replace hbad := hid hbad
      replace hgood := hid hgood
      clear hp hcd hcm
      go_wp2
      all_goals (try simp only [Bool.not_eq_true', Bool.not_eq_false', decide_eq_false_iff_not, decide_eq_true_iff, beq_iff_eq, beq_eq_false_iff_ne, ne_eq] at *)
      all_goals first
        | (have e := hbad.out (nmc_no (by omega))
           go_ret
           exact ⟨ret_bool e.out, rfl⟩)
        | (have e := hgood.out (nmc_ok (by omega))
           exact ⟨⟨j + 1, by omega, by go_num, e⟩, by simp [intOf]; omega⟩)
    · have hlt' : ¬ (j : Int) < (s.length : Int) := by omega
      obtain rfl : j = s.length := by omega
      have e : Hid (true = mayN s) := by
        unfold Hid
        rw [← hm.out]
        symm
        rw [mayB_iff]
        refine ⟨hne.out.1, hne.out.2, fun c hc => ?_⟩
        obtain ⟨i, hi⟩ := List.mem_iff_getElem?.1 hc
        have := hp.out i (List.getElem?_eq_some_iff.1 hi).1
        simpa [List.getD, hi] using this
      clear hp
      go_wp2
      go_ret
      exact ⟨ret_bool e.out, rfl⟩
end Go.Proofs.YtjhodmpgggaknaaGreatDoor.Mat
/- Contracts of Quote, of the document's Quote. -/
namespace Go.Proofs.YtjhodmpgggaknaaGreatDoor.Mat
open Go.RowKit Go.Shelf

theorem special_any (c : UInt8) (w : World) : Calls Tryz.prog 117 #[.int .u8 (c.toNat : Int)] w fun e w' => e = .returned (.bool (spc c)) ∧ w' = w := by
  by_cases h1 : c.toNat = 34
  · have h1' : ((c.toNat : Int) == 34) = true := by simp; omega
    have e : Hid (true = spc c) := by unfold Hid spc; simp [h1]
    clear h1
    go_enter Tryz.func117, Tryz.ntmps117
    go_wp2
    go_ret
    exact ⟨ret_bool e.out, rfl⟩
  · have h1' : ((c.toNat : Int) == 34) = false := by simp; omega
    have e : Hid ((c.toNat == 92) = spc c) := by
      unfold Hid spc
      rw [show (c.toNat == 34) = false by simpa using h1]
      rfl
    by_cases h2 : c.toNat = 92
    · have h2' : ((c.toNat : Int) == 92) = true := by simp; omega
      rw [show (c.toNat == 92) = true by simpa using h2] at e
      clear h1 h2
      go_enter Tryz.func117, Tryz.ntmps117
      go_wp2
      go_ret
      exact ⟨ret_bool e.out, rfl⟩
    · have h2' : ((c.toNat : Int) == 92) = false := by simp; omega
      rw [show (c.toNat == 92) = false by simpa using h2] at e
      clear h1 h2
      go_enter Tryz.func117, Tryz.ntmps117
      go_wp2
      go_ret
      exact ⟨ret_bool e.out, rfl⟩
theorem app_str (a b : Tx) : (⟨a.toArray⟩ : ByteArray) ++ ⟨b.toArray⟩ = ⟨(a ++ b).toArray⟩ := by
  apply ByteArray.ext
  simp
theorem ext_str (s : Tx) (i j : Nat) : (⟨s.toArray⟩ : ByteArray).extract i j = ⟨((s.take j).drop i).toArray⟩ := by
  apply ByteArray.ext
  apply Array.ext'
  simp [ByteArray.data_extract, List.drop_take]
theorem ext_one {s : Tx} {j : Nat} (h : j < s.length) : (⟨s.toArray⟩ : ByteArray).extract j (j + 1) = ⟨([s.getD j 0] : Tx).toArray⟩ := by
  rw [ext_str, List.take_succ_eq_append_getElem h, List.drop_append_of_le_length (by simp; omega), List.drop_eq_nil_of_le (by simp; omega)]
  simp [List.getD, List.getElem?_eq_getElem h]
theorem esc_take (s : Tx) {j : Nat} (h : j < s.length) : esc (s.take (j + 1)) = esc (s.take j) ++ esc1 (s.getD j 0) := by
  rw [List.take_succ_eq_append_getElem h, esc_app]
  simp [esc, List.getD, List.getElem?_eq_getElem h]
theorem byte_lt (c : UInt8) : 0 ≤ (c.toNat : Int) ∧ (c.toNat : Int) < 256 := by
  have := UInt8.toNat_lt c
  omega
set_option maxHeartbeats 2000000 in
theorem quote_any (s : Tx) (w : World) (hs : s.length ≤ 35184372088832) : Calls Tryz.prog 92 #[str s] w fun e w' => e = .returned (str (quote s)) ∧ Below w.heap.size w w' := by
  have hsp := hid special_any
  have ho0 : Own w.heap.size (w.alloc (.cells #[.int .u8 34] 5)) (.slice (some ⟨w.heap.size, 0, none⟩) 1 1) (34 :: ints (esc (s.take 0))) := own_new w _ [34] _ _ rfl rfl rfl (byt_one (by omega)) (by unfold maxLen; simp)
  unfold str
  go_enter Tryz.func92, Tryz.ntmps92
  go_wp2
  go_loopw [3, 8] (fun qv iv wr => ∃ j : Nat, j ≤ s.length ∧ iv = .int .i64 (j : Int) ∧ Hid (Own w.heap.size wr qv (34 :: ints (esc (s.take j)))) ∧ Hid (Below w.heap.size w wr)) (fun _ iv _ => s.length - (intOf iv).toNat)
  case atStart => exact ⟨0, by omega, rfl, ho0, alloc_below _ _⟩
  case round =>
    obtain ⟨j, hj, rfl, ho, hB⟩ := hrel
    obtain ⟨V, rfl⟩ : ∃ V : World, V = wr := ⟨_, rfl⟩
    clear ho0
    have hel := esc_len (s.take j)
    have hle : (34 :: ints (esc (s.take j))).length ≤ 70368744177665 := by
      rw [List.length_cons, ints_len]
      have : (s.take j).length ≤ s.length := by simp; omega
      omega
    by_cases hlt : j < s.length
    · have hlt' : (j : Int) < (s.length : Int) := by omega
      have hget := get_at hlt
      have het := esc_take s hlt
      obtain ⟨c, hcd⟩ : ∃ c, c = s.getD j 0 := ⟨_, rfl⟩
      rw [← hcd] at hget het
      obtain ⟨av, cv, rfl⟩ := ho.out.slice
      generalize hz : esc (s.take j) = z at *
      have het' := hid het
      clear hz hel hcd het
      cases hc : spc c
      · obtain ⟨a1, c1, V1, hrun, o1, b1⟩ := push_run ho.out (c.toNat : Int) (byte_lt c) (by omega) hB.out.size
        have o1' : Hid (Own w.heap.size V1 (.slice a1 ((34 :: ints z).length + 1) c1) (34 :: ints (esc (s.take (j + 1))))) := by
          unfold Hid
          rw [het'.out]
          unfold esc1
          rw [hc, if_neg (by simp), ints_app]
          exact o1
        have B1 := hid (hB.out.trans b1)
        clear o1 b1 ho
        generalize (34 :: ints z).length = n at *
        go_wp2_with (first | (go_at_call 117; refine (hsp.out _ _).mono ?_; rintro e w' ⟨rfl, rfl⟩) | (at_builtin; refine wpList_append_run _ rfl _ _ 89 rfl _ _ _ _ rfl rfl hrun ?_))
        exact ⟨⟨j + 1, by omega, by go_num, o1', B1⟩, by simp [intOf]; omega⟩
      · obtain ⟨a1, c1, V1, hrun, o1, b1⟩ := push_run ho.out 92 (by omega) (by omega) hB.out.size
        have o1l : (34 :: ints z ++ [92]).length = (34 :: ints z).length + 1 := by simp
        obtain ⟨a2, c2, V2, hrun2, o2, b2⟩ := push_run o1 (c.toNat : Int) (byte_lt c) (by rw [o1l]; omega) (hB.out.trans b1).size
        rw [o1l] at hrun2 o2
        have o2' : Hid (Own w.heap.size V2 (.slice a2 ((34 :: ints z).length + 1 + 1) c2) (34 :: ints (esc (s.take (j + 1))))) := by
          unfold Hid
          rw [het'.out]
          unfold esc1
          rw [hc, if_pos rfl, ints_app]
          have e : (34 :: (ints z ++ ints [92, c]) : List Int) = (34 :: ints z ++ [92]) ++ [(c.toNat : Int)] := by simp [ints]
          rw [e]
          exact o2
        have B2 := hid ((hB.out.trans b1).trans b2)
        clear o1 b1 ho o2 b2 o1l
        generalize (34 :: ints z).length = n at *
        go_wp2_with (first | (go_at_call 117; refine (hsp.out _ _).mono ?_; rintro e w' ⟨rfl, rfl⟩) | (at_builtin; refine wpList_append_run _ rfl _ _ 89 rfl _ _ _ _ rfl rfl hrun ?_; clear hrun) | (at_builtin; refine wpList_append_run _ rfl _ _ 89 rfl _ _ _ _ rfl rfl hrun2 ?_))
        exact ⟨⟨j + 1, by omega, by go_num, o2', B2⟩, by simp [intOf]; omega⟩
    · have hlt' : ¬ (j : Int) < (s.length : Int) := by omega
      obtain rfl : j = s.length := by omega
      obtain ⟨av, cv, rfl⟩ := ho.out.slice
      obtain ⟨a1, c1, V1, hrun, o1, b1⟩ := push_run ho.out 34 (by omega) (by omega) hB.out.size
      have B1 := hid (hB.out.trans b1)
      have hcv := conv_str o1.isB
      have e : Hid (byts (34 :: ints (esc (s.take s.length)) ++ [34]) = quote s) := by
        unfold Hid
        rw [List.take_length]
        have : (34 :: ints (esc s) ++ [34] : List Int) = ints (quote s) := by simp [ints, quote]
        rw [this, byts_ints]
      rw [e.out] at hcv
      clear o1 b1 ho e hel
      generalize (34 :: ints (esc (s.take s.length))).length = n at *
      go_wp2_with (at_builtin; refine wpList_append_run _ rfl _ _ 89 rfl _ _ _ _ rfl rfl hrun ?_)
      go_ret
      exact ⟨rfl, B1.out⟩
set_option maxHeartbeats 1000000 in
theorem rquote_any (s : Tx) (w : World) (hs : s.length ≤ 35184372088832) : Calls Tryz.prog 48 #[str s] w fun e w' => e = .returned (str (quote s)) ∧ w' = w := by
  unfold str
  go_enter Tryz.func48, Tryz.ntmps48
  go_wp2
  go_loop [3, 4] (fun sv iv => ∃ (j : Nat) (z : Tx), j ≤ s.length ∧ iv = .int .i64 (j : Int) ∧ sv = .string ⟨z.toArray⟩ ∧ Hid (z = 34 :: esc (s.take j))) (fun _ iv => s.length - (intOf iv).toNat)
  case atStart => exact ⟨0, [34], by omega, rfl, rfl, rfl⟩
  case round =>
    obtain ⟨j, z, hj, rfl, rfl, hz⟩ := hrel
    have hzl : z.length ≤ 70368744177665 := by
      have hel := esc_len (s.take j)
      rw [hz.out, List.length_cons]
      have : (s.take j).length ≤ s.length := by simp; omega
      omega
    by_cases hlt : j < s.length
    · have hlt' : (j : Int) < (s.length : Int) := by omega
      have hget := get_at hlt
      have het := esc_take s hlt
      obtain ⟨c, hcd⟩ : ∃ c, c = s.getD j 0 := ⟨_, rfl⟩
      rw [← hcd] at hget het
      have het' := hid het
      clear het
      have hx := ext_one hlt
      rw [← hcd] at hx
      have hx' := hid hx
      clear hcd hx
      by_cases h34 : c.toNat = 34 ∨ c.toNat = 92
      · have hc : spc c = true := by
          unfold spc
          rcases h34 with h | h <;> simp [h]
        have hnew : Hid (Value.string (⟨z.toArray⟩ ++ ⟨#[92]⟩ ++ (⟨s.toArray⟩ : ByteArray).extract j (j + 1)) = .string ⟨(z ++ esc1 c).toArray⟩) := by
          unfold Hid
          rw [hx'.out, show (⟨#[92]⟩ : ByteArray) = ⟨([92] : Tx).toArray⟩ from rfl, app_str, app_str]
          unfold esc1
          rw [hc, if_pos rfl]
          simp
        have hz' : Hid (z ++ esc1 c = 34 :: esc (s.take (j + 1))) := by
          unfold Hid
          rw [het'.out, hz.out]; rfl
        clear hz het' hc
        rcases h34 with h | h
        · have t1 : ((c.toNat : Int) == 34) = true := by simp; omega
          clear h
          go_wp2
          exact ⟨⟨j + 1, _, by omega, by go_num, hnew.out, hz'⟩, by simp [intOf]; omega⟩
        · have t1 : ((c.toNat : Int) == 34) = false := by simp; omega
          have t2 : ((c.toNat : Int) == 92) = true := by simp; omega
          clear h
          go_wp2
          exact ⟨⟨j + 1, _, by omega, by go_num, hnew.out, hz'⟩, by simp [intOf]; omega⟩
      · have hc : spc c = false := by
          unfold spc
          simp
          omega
        have t1 : ((c.toNat : Int) == 34) = false := by simp; omega
        have t2 : ((c.toNat : Int) == 92) = false := by simp; omega
        have hnew : Hid (Value.string (⟨z.toArray⟩ ++ (⟨s.toArray⟩ : ByteArray).extract j (j + 1)) = .string ⟨(z ++ esc1 c).toArray⟩) := by
          unfold Hid
          rw [hx'.out, app_str]
          unfold esc1
          rw [hc, if_neg (by simp)]
        have hz' : Hid (z ++ esc1 c = 34 :: esc (s.take (j + 1))) := by
          unfold Hid
          rw [het'.out, hz.out]; rfl
        clear hz het' hc h34
        go_wp2
        exact ⟨⟨j + 1, _, by omega, by go_num, hnew.out, hz'⟩, by simp [intOf]; omega⟩
    · have hlt' : ¬ (j : Int) < (s.length : Int) := by omega
      obtain rfl : j = s.length := by omega
      have hnew : Hid (Value.string (⟨z.toArray⟩ ++ ⟨#[34]⟩) = .string ⟨(quote s).toArray⟩) := by
        unfold Hid
        rw [show (⟨#[34]⟩ : ByteArray) = ⟨([34] : Tx).toArray⟩ from rfl, app_str, hz.out, List.take_length]
        rfl
      clear hz
      go_wp2
      go_ret
      exact ⟨congrArg Ending.returned hnew.out, rfl⟩
end Go.Proofs.YtjhodmpgggaknaaGreatDoor.Mat
/- Contracts of strings.Cut at a =, strings.Clone, takeValue. -/
namespace Go.Proofs.YtjhodmpgggaknaaGreatDoor.Mat
open Go.RowKit Go.Shelf

theorem drop_at {s : Tx} {i : Nat} (h : i < s.length) : s.drop i = s.getD i 0 :: s.drop (i + 1) := by
  rw [List.drop_eq_getElem_cons h]
  simp [List.getD, List.getElem?_eq_getElem h]
end Go.Proofs.YtjhodmpgggaknaaGreatDoor.Mat
/- Contracts of mayValue, sign, together, May. -/
namespace Go.Proofs.YtjhodmpgggaknaaGreatDoor.Mat
open Go.RowKit Go.Shelf Go.Maps

set_option maxHeartbeats 400000 in
theorem mayVal_any (s : Tx) (w : World) (hs : s.length ≤ 9223372036854775807) : Calls Tryz.prog 72 #[str s] w fun e w' => e = .returned (.bool (mayV0 s)) ∧ w' = w := by
  have hm := hid (mayValue_any s w hs)
  have hl : Hid (mayV0 s = (s.isEmpty || mayV s)) := mayV0_or s
  generalize mayV0 s = b at *
  cases s with
  | nil =>
    have e := hl.out
    simp at e
    subst e
    clear hl hm
    unfold str
    go_enter Tryz.func72, Tryz.ntmps72
    go_wp2
    go_ret
    exact ⟨rfl, rfl⟩
  | cons c t =>
    have e := hl.out
    simp only [List.isEmpty_cons, Bool.false_or] at e
    rw [← e] at hm
    clear hl e
    have hne : (c :: t == []) = false := rfl
    unfold str at *
    generalize c :: t = s at *
    go_enter Tryz.func72, Tryz.ntmps72
    go_wp2_with (go_at_call 103; refine hm.out.mono ?_; rintro e w' ⟨rfl, rfl⟩)
    go_ret
    exact ⟨rfl, rfl⟩
set_option maxHeartbeats 400000 in
theorem sign_any (o : UInt8) (w : World) : Calls Tryz.prog 91 #[.int .u8 (o.toNat : Int)] w fun e w' => e = .returned (str (opS o)) ∧ w' = w := by
  have hl : Hid (opS o = if o = 1 then [33, 61] else if o = 2 then [94, 61] else [61]) := rfl
  generalize opS o = z at *
  by_cases h1 : o = 1
  · subst h1
    have e := hl.out
    rw [if_pos rfl] at e
    subst e
    unfold str
    go_enter Tryz.func91, Tryz.ntmps91
    go_wp2
    go_ret
    exact ⟨rfl, rfl⟩
  · rw [if_neg h1] at hl
    by_cases h2 : o = 2
    · subst h2
      have e := hl.out
      rw [if_pos rfl] at e
      subst e
      unfold str
      go_enter Tryz.func91, Tryz.ntmps91
      go_wp2
      go_ret
      exact ⟨rfl, rfl⟩
    · rw [if_neg h2] at hl
      have e := hl.out
      subst e
      have t1 : ((o.toNat : Int) == 1) = false := by
        simp only [beq_eq_false_iff_ne, ne_eq]
        exact fun e => h1 (UInt8.toNat_inj.1 (show o.toNat = 1 by omega))
      have t2 : ((o.toNat : Int) == 2) = false := by
        simp only [beq_eq_false_iff_ne, ne_eq]
        exact fun e => h2 (UInt8.toNat_inj.1 (show o.toNat = 2 by omega))
      clear h1 h2 hl
      unfold str
      go_enter Tryz.func91, Tryz.ntmps91
      go_wp2
      go_ret
      exact ⟨rfl, rfl⟩
theorem join3 (x y z : Tx) : Lib.join [x, y, z] [] = x ++ (y ++ z) := by
  simp [Lib.join_cons, Lib.joinTail]
set_option maxHeartbeats 400000 in
theorem together_any (x y z : Tx) (w : World) (hl : (x ++ (y ++ z)).length ≤ 140737488355328) (b : Nat) (hb : b < w.heap.size) (h0 : w.cell? ⟨b, 0, none⟩ = some (.string ⟨x.toArray⟩)) (h1 : w.cell? ⟨b, 1, none⟩ = some (.string ⟨y.toArray⟩)) (h2 : w.cell? ⟨b, 2, none⟩ = some (.string ⟨z.toArray⟩)) :
    Calls Tryz.prog 90 #[.slice (some ⟨b, 0, none⟩) 3 3] w fun e w' => e = .returned (str (x ++ (y ++ z))) ∧ Below w.heap.size w w' := by
  have hj := hid (Tryz.strings_Join b 0 3 [⟨x.toArray⟩, ⟨y.toArray⟩, ⟨z.toArray⟩] ⟨#[]⟩ w (fun j u hu => by
    match j, hu with
    | 0, hu => cases hu; exact h0
    | 1, hu => cases hu; exact h1
    | 2, hu => cases hu; exact h2
    | _ + 3, hu => cases hu) hb (by simp) (by simp) (by
      show (Lib.join [x, y, z] []).length ≤ _
      rw [join3]
      exact hl))
  have e : Hid (Lib.join (([⟨x.toArray⟩, ⟨y.toArray⟩, ⟨z.toArray⟩] : List ByteArray).map (·.data.toList)) (⟨#[]⟩ : ByteArray).data.toList = x ++ (y ++ z)) := join3 x y z
  rw [e.out] at hj
  unfold str
  clear e h0 h1 h2
  go_enter Tryz.func90, Tryz.ntmps90
  go_wp2_with (go_at_call 93; refine hj.out.mono ?_; rintro e w' ⟨rfl, b8⟩)
  go_ret
  exact ⟨rfl, b8⟩
theorem together_new (x y z : Tx) (w : World) (hl : (x ++ (y ++ z)).length ≤ 140737488355328) (t : TypeId) :
    Calls Tryz.prog 90 #[.slice (some ⟨w.heap.size, 0, none⟩) 3 3] (w.alloc (.cells #[.string ⟨x.toArray⟩, .string ⟨y.toArray⟩, .string ⟨z.toArray⟩] t)) fun e w' => e = .returned (str (x ++ (y ++ z))) ∧ Below w.heap.size w w' := by
  have hn := new_block w (.cells #[.string ⟨x.toArray⟩, .string ⟨y.toArray⟩, .string ⟨z.toArray⟩] t)
  refine (together_any x y z (w.alloc (.cells #[.string ⟨x.toArray⟩, .string ⟨y.toArray⟩, .string ⟨z.toArray⟩] t)) hl w.heap.size (by simp) (by rw [cell_of hn]; rfl) (by rw [cell_of hn]; rfl) (by rw [cell_of hn]; rfl)).mono ?_
  rintro e w' ⟨rfl, b⟩
  exact ⟨rfl, low' (alloc_below _ _) b⟩
theorem may_false {m : List Mt} {x : Mt} (h : x ∈ m) (hx : mayM1 x = false) : Hid (false = mayM m) := by
  unfold Hid
  symm
  cases hm : mayM m
  · rfl
  · rw [(mayM_iff.1 hm).2 x h] at hx
    cases hx
set_option maxRecDepth 100000 in
set_option maxHeartbeats 4000000 in
theorem mmay_any (v : Value) (m : List Mt) (w : World) (h : IsMs w v m) : Calls Tryz.prog 50 #[v] w fun e w' => e = .returned (.bool (mayM m)) ∧ Below w.heap.size w w' := by
  obtain ⟨a, c, rfl⟩ := h.slice
  obtain ⟨-, hb⟩ := h.bound
  replace h := hid h
  by_cases h6 : 6 < m.length
  · have e : Hid (false = mayM m) := by
      unfold Hid mayM
      rw [decide_eq_false (by omega : ¬ m.length ≤ 6)]
      simp
    have h6' : (6 : Int) < (m.length : Int) := by omega
    go_enter Tryz.func50, Tryz.ntmps50
    go_wp2
    go_ret
    exact ⟨ret_bool e.out, Below.refl _ _⟩
  have h6' : ¬ (6 : Int) < (m.length : Int) := by omega
  go_enter Tryz.func50, Tryz.ntmps50
  go_wp2_with fail
  refine (questions_any w).mono ?_
  rintro e w0 ⟨b, rfl, hq, b0⟩
  replace hq := hid hq
  have B0 := hid b0
  clear b0
  go_wp2
  go_loopw [12] (fun iv wr => ∃ j : Nat, j ≤ m.length ∧ iv = .int .i64 j ∧ Hid (∀ i x, i < j → m[i]? = some x → mayM1 x = true) ∧ Hid (QsAt wr b) ∧ Hid (Below w.heap.size w wr)) (fun iv _ => m.length - (intOf iv).toNat)
  case atStart => exact ⟨0, by omega, rfl, (fun i x hi => by omega), hq.out, B0.out⟩
  case round =>
    obtain ⟨j, hj, rfl, hp, hQ, hB⟩ := hrel
    clear hq B0
    obtain ⟨V, rfl⟩ : ∃ V : World, V = wr := ⟨_, rfl⟩
    by_cases hlt : j < m.length
    · have hlt' : (j : Int) < (m.length : Int) := by omega
      obtain ⟨bm, off, rfl, hc⟩ := (h.out.below hB.out).at hlt
      obtain ⟨⟨xn, xo, xv⟩, hx⟩ : ∃ x, m[j]? = some x := ⟨_, List.getElem?_eq_getElem hlt⟩
      obtain ⟨c0, c1, c2⟩ := hc j _ hx
      have hblk := World.block_lt_of_cell? V _ c0
      obtain ⟨m0, m1⟩ := h.out.mid hx
      simp only at c0 c1 c2 hblk m0 m1
      have bV := alloc_below V (.cells #[.string ⟨xn.toArray⟩, .int .u8 (xo.toNat : Int), .string ⟨xv.toArray⟩] 33)
      have hQ1 := look_at (hQ.out.below bV) xo
      have hend : Hid (QsAt (V.alloc (.cells #[.string ⟨xn.toArray⟩, .int .u8 (xo.toNat : Int), .string ⟨xv.toArray⟩] 33)) b ∧ Below w.heap.size w (V.alloc (.cells #[.string ⟨xn.toArray⟩, .int .u8 (xo.toNat : Int), .string ⟨xv.toArray⟩] 33))) := ⟨hQ.out.below bV, low' hB.out bV⟩
      have hnb := new_block V (.cells #[.string ⟨xn.toArray⟩, .int .u8 (xo.toNat : Int), .string ⟨xv.toArray⟩] 33)
      have g0 := cell_of hnb 0
      have g1 := cell_of hnb 1
      have g2 := cell_of hnb 2
      have hyes : mayM1 (xn, xo, xv) = true → Hid (∀ i x, i < j + 1 → m[i]? = some x → mayM1 x = true) := fun hd i x hi hx' => by
        by_cases e : i = j
        · subst e
          rw [hx] at hx'
          cases hx'
          exact hd
        · exact hp.out i x (by omega) hx'
      have hno : mayM1 (xn, xo, xv) = false → _ := fun hd => may_false (List.mem_of_getElem? hx) hd
      have hnew : mayM1 (xn, xo, xv) = (decide (xo.toNat ≤ 2) && mayN xn && mayV0 xv) := rfl
      rw [hnew] at hyes hno
      replace hyes := hid hyes
      replace hno := hid hno
      have hn := hid (fun w => mayName_any xn w m0)
      have hv := hid (fun w => mayVal_any xv w m1)
      unfold str opv at *
      clear hp hc hx hnew hnb bV
      by_cases ho : xo.toNat ≤ 2
      · obtain ⟨k, hk, -, -⟩ := ask_any ho
        rw [hk] at hQ1
        have heq := eq_fn k
        rw [decide_eq_true ho, Bool.true_and] at hyes hno
        cases en : mayN xn
        · rw [en] at hn hno
          have e := hno.out rfl
          clear hyes hno hk ho hQ hB hv en
          go_wp2_with (first | (go_at_call 71; refine (hn.out _).mono ?_; rintro e w' ⟨rfl, hw'⟩; have hw2 := hw'.symm; subst hw2) | (go_at_call 72; refine (hv.out _).mono ?_; rintro e w' ⟨rfl, hw'⟩; have hw2 := hw'.symm; subst hw2))
          go_ret
          exact ⟨ret_bool e.out, hend.out.2⟩
        · rw [en, Bool.true_and] at hyes hno
          rw [en] at hn
          cases ev : mayV0 xv
          · rw [ev] at hv hno
            have e := hno.out rfl
            clear hyes hno hk ho hQ hB en ev
            go_wp2_with (first | (go_at_call 71; refine (hn.out _).mono ?_; rintro e w' ⟨rfl, hw'⟩; have hw2 := hw'.symm; subst hw2) | (go_at_call 72; refine (hv.out _).mono ?_; rintro e w' ⟨rfl, hw'⟩; have hw2 := hw'.symm; subst hw2))
            go_ret
            exact ⟨ret_bool e.out, hend.out.2⟩
          · rw [ev] at hv hyes
            have e := hyes.out rfl
            clear hyes hno hk ho hQ hB en ev
            go_wp2_with (first | (go_at_call 71; refine (hn.out _).mono ?_; rintro e w' ⟨rfl, hw'⟩; have hw2 := hw'.symm; subst hw2) | (go_at_call 72; refine (hv.out _).mono ?_; rintro e w' ⟨rfl, hw'⟩; have hw2 := hw'.symm; subst hw2))
            exact ⟨⟨j + 1, by omega, by go_num, e, hend.out.1, hend.out.2⟩, by simp [intOf]; omega⟩
      · obtain ⟨hf, -⟩ := ask_none ho
        rw [hf] at hQ1
        rw [decide_eq_false ho] at hno
        have e := hno.out rfl
        have heq := eq_nil
        clear hyes hno hf ho hQ hB hn hv
        go_wp2
        go_ret
        exact ⟨ret_bool e.out, hend.out.2⟩
    · have hlt' : ¬ (j : Int) < (m.length : Int) := by omega
      obtain rfl : j = m.length := by omega
      have e : Hid (true = mayM m) := by
        unfold Hid
        symm
        rw [mayM_iff]
        refine ⟨by omega, fun x hx => ?_⟩
        obtain ⟨i, hi⟩ := List.mem_iff_getElem?.1 hx
        exact hp.out i x (List.getElem?_eq_some_iff.1 hi).1 hi
      clear hp
      go_wp2
      go_ret
      exact ⟨ret_bool e.out, hB.out⟩
end Go.Proofs.YtjhodmpgggaknaaGreatDoor.Mat
/- Contract of Print. -/
namespace Go.Proofs.YtjhodmpgggaknaaGreatDoor.Mat
open Go.RowKit Go.Shelf Go.Maps

theorem itemM_in : ∀ (l : List Mt) {x : Mt}, x ∈ l → (itemM x).length ≤ (Lib.join (l.map itemM) [44]).length
  | [], _, h => by cases h
  | y :: r, x, h => by
    rw [List.map_cons, Lib.join_cons, List.length_append]
    rcases List.mem_cons.1 h with rfl | h
    · omega
    · cases r with
      | nil => cases h
      | cons z r =>
        have := itemM_in (z :: r) h
        rw [List.map_cons, Lib.join_cons, List.length_append] at this
        simp [Lib.joinTail] at this ⊢
        omega
theorem printM_len (l : List Mt) : (printM l).length = (Lib.join (l.map itemM) [44]).length + 2 := by
  unfold printM
  simp
theorem strInfo : (Tryz.prog.info? 9).map (fun i => (i.zero, i.size, i.bytes)) = some (some (.string ⟨#[]⟩), 1, 16) := by kernel_rfl
/-- the texts, so many of which are laid. -/
def textsM (l : List Mt) (j i : Nat) : Value := if i < j then str (itemM (l.getD i ([], 0, []))) else str []
theorem joinM_any (l : List Mt) (b : Nat) (w : World) (hr : w.rowIs b 9 l.length (textsM l l.length)) (hl : l.length ≤ 3000000) (hp : (Lib.join (l.map itemM) [44]).length ≤ 35184372088832) :
    Calls Tryz.prog 93 #[.slice (some ⟨b, 0, none⟩) l.length l.length, .string ⟨#[44]⟩] w fun e w' => e = .returned (str (Lib.join (l.map itemM) [44])) ∧ Below w.heap.size w w' := by
  have hmap : (l.map fun x => (⟨(itemM x).toArray⟩ : ByteArray)).map (fun x => x.data.toList) = l.map itemM := by simp
  have := Tryz.strings_Join b 0 l.length (l.map fun x => (⟨(itemM x).toArray⟩ : ByteArray)) ⟨#[44]⟩ w (fun j x hx => by
    rw [List.getElem?_map] at hx
    cases hy : l[j]? with
    | none => rw [hy] at hx; cases hx
    | some y =>
      rw [hy] at hx
      cases hx
      have hj : j < l.length := (List.getElem?_eq_some_iff.1 hy).1
      rw [Nat.zero_add, hr.cell hj]
      unfold textsM
      rw [if_pos hj]
      simp [List.getD, hy, str]) hr.lt (by simp; omega) (by simp) (by rw [hmap]; show (Lib.join (l.map itemM) [44]).length ≤ _; omega)
  rw [hmap, List.length_map] at this
  exact this
set_option maxRecDepth 100000 in
set_option maxHeartbeats 4000000 in
theorem mprint_any (v : Value) (l : List Mt) (w : World) (h : IsMs w v l) (hl : l.length ≤ 3000000) (hp : (printM l).length ≤ 35184372088832) : Calls Tryz.prog 64 #[v] w fun e w' => e = .returned (str (printM l)) ∧ Below w.heap.size w w' := by
  obtain ⟨a, c, rfl⟩ := h.slice
  obtain ⟨-, hb⟩ := h.bound
  replace h := hid h
  rw [printM_len] at hp
  have hmk := run_make_row' (P := Tryz.prog) 63 9 (.string ⟨#[]⟩) 16 Tryz.underlying63 strInfo rfl .i64 .i64 l.length (by omega) (by omega) w
  have hrow : Hid ((w.alloc (.cells (madeCells #[.string ⟨#[]⟩] l.length) 9)).rowIs w.heap.size 9 l.length (textsM l 0)) := (World.rowIs_made w (.string ⟨#[]⟩) l.length 9).congr fun i hi => by unfold textsM; rw [if_neg (by omega)]; rfl
  have hlow : Hid (Below w.heap.size w (w.alloc (.cells (madeCells #[.string ⟨#[]⟩] l.length) 9))) := alloc_below _ _
  go_enter Tryz.func64, Tryz.ntmps64
  go_wp2
  generalize w.alloc (.cells (madeCells #[.string ⟨#[]⟩] l.length) 9) = w1 at *
  clear hmk
  go_loopw [11] (fun iv wr => ∃ j : Nat, j ≤ l.length ∧ iv = .int .i64 (j : Int) ∧ Hid (wr.rowIs w.heap.size 9 l.length (textsM l j)) ∧ Hid (Below w.heap.size w wr)) (fun iv _ => l.length - (intOf iv).toNat)
  case atStart => exact ⟨0, by omega, rfl, hrow, hlow⟩
  case round =>
    obtain ⟨j, hj, rfl, hr, hB⟩ := hrel
    clear hrow hlow
    obtain ⟨V, rfl⟩ : ∃ V : World, V = wr := ⟨_, rfl⟩
    by_cases hlt : j < l.length
    · have hlt' : (j : Int) < (l.length : Int) := by omega
      obtain ⟨b, off, rfl, hc⟩ := (h.out.below hB.out).at hlt
      obtain ⟨⟨xn, xo, xv⟩, hx⟩ : ∃ x, l[j]? = some x := ⟨_, List.getElem?_eq_getElem hlt⟩
      obtain ⟨c0, c1, c2⟩ := hc j _ hx
      have hbl := World.block_lt_of_cell? V _ c0
      have hit := itemM_in l (List.mem_of_getElem? hx)
      have hil := (itemM_len (xn, xo, xv)).1
      simp only at c0 c1 c2 hbl hil
      have hq := hid (fun w => quote_any xv w (by omega))
      have hsg := hid (sign_any xo)
      have htn := hid (fun (W : World) (t : TypeId) => together_new xn (opS xo) (quote xv) W (by show (itemM (xn, xo, xv)).length ≤ _; omega) t)
      have hU : ∀ W, Below (V.alloc (.cells #[.string ⟨xn.toArray⟩, .int .u8 (xo.toNat : Int), .string ⟨xv.toArray⟩] 33)).heap.size (V.alloc (.cells #[.string ⟨xn.toArray⟩, .int .u8 (xo.toNat : Int), .string ⟨xv.toArray⟩] 33)) W →
          W.cell? ⟨V.heap.size, 0, none⟩ = some (.string ⟨xn.toArray⟩) ∧ W.cell? ⟨V.heap.size, 1, none⟩ = some (.int .u8 (xo.toNat : Int)) ∧ W.cell? ⟨V.heap.size, 2, none⟩ = some (.string ⟨xv.toArray⟩) ∧ W.cell? ⟨w.heap.size, j, none⟩ = some (.string ⟨#[]⟩) ∧ W.frozen? ⟨w.heap.size, j, none⟩ = false ∧
          Hid ((W.setCell ⟨w.heap.size, j, none⟩ (.string ⟨(xn ++ (opS xo ++ quote xv)).toArray⟩)).rowIs w.heap.size 9 l.length (textsM l (j + 1)) ∧ Below w.heap.size w (W.setCell ⟨w.heap.size, j, none⟩ (.string ⟨(xn ++ (opS xo ++ quote xv)).toArray⟩))) := fun W hW => by
        have hnb := new_block V (.cells #[.string ⟨xn.toArray⟩, .int .u8 (xo.toNat : Int), .string ⟨xv.toArray⟩] 33)
        have hnb' := (hW.block V.heap.size (by simp)).trans hnb
        have hrW := (hr.out.of_block ((alloc_below V (.cells #[.string ⟨xn.toArray⟩, .int .u8 (xo.toNat : Int), .string ⟨xv.toArray⟩] 33)).block _ hr.out.lt)).of_block (hW.block _ (by have := hr.out.lt; simp; omega))
        refine ⟨by rw [cell_of hnb']; rfl, by rw [cell_of hnb']; rfl, by rw [cell_of hnb']; rfl, ?_, hrW.frozen j, ?_, ?_⟩
        · rw [hrW.cell hlt]
          unfold textsM
          rw [if_neg (by omega)]
          rfl
        · refine (hrW.set j _).congr fun i hi => ?_
          unfold textsM
          by_cases e : i = j
          · subst e
            rw [if_pos rfl, if_pos (by omega)]
            simp [List.getD, hx, str, itemM]
          · rw [if_neg e]
            by_cases e2 : i < j
            · rw [if_pos e2, if_pos (by omega)]
            · rw [if_neg e2, if_neg (by omega)]
        · have hbW := low' (low' hB.out (alloc_below V (.cells #[.string ⟨xn.toArray⟩, .int .u8 (xo.toNat : Int), .string ⟨xv.toArray⟩] 33))) hW
          exact hbW.trans ⟨rfl, rfl, rfl, by rw [size_set]; exact Nat.le_refl _, fun k hk => heap_set _ _ _ _ _ (by omega)⟩
      have hne : ¬ V.heap.size = w.heap.size := by have := hr.out.lt; omega
      have hne2 : ¬ w.heap.size = V.heap.size := by have := hr.out.lt; omega
      clear hr hc hx hit hil
      have hbs := hB.out.size
      replace hU := hid hU
      unfold str opv at *
      go_wp2_with fail
      generalize hgU : V.alloc (.cells #[.string ⟨xn.toArray⟩, .int .u8 (xo.toNat : Int), .string ⟨xv.toArray⟩] 33) = U at *
      clear hgU
      have hUU : Hid (Below U.heap.size U U) := Below.refl _ _
      obtain ⟨g0, g1, g2, g3, g4, g5⟩ := hU.out U hUU.out
      clear g5
      generalize opS xo = so at *
      generalize quote xv = qv at *
      go_region_held3 (fun w' => w'.cell? ⟨V.heap.size, 0, none⟩ = some (.string ⟨xn.toArray⟩) ∧ w'.cell? ⟨V.heap.size, 1, none⟩ = some (.int .u8 (xo.toNat : Int)) ∧ w'.cell? ⟨V.heap.size, 2, none⟩ = some (.string ⟨xv.toArray⟩)) (go_keep) (first | (go_at_call 91; refine (hsg.out _).mono ?_; rintro e w4 ⟨rfl, rfl⟩) | (go_at_call 92; refine (hq.out _).mono ?_; rintro e w5 ⟨rfl, b5⟩; have B5 := hid (low' (below_drewN (n := 1) hUU.out) b5); obtain ⟨j0, j1, j2, j3, j4, j5⟩ := hU.out w5 B5.out; clear b5 j5) | (go_at_call 90; refine (htn.out _ _).mono ?_; rintro e w6 ⟨rfl, b6⟩; have B6 := hid (low' B5.out b6); obtain ⟨k0, k1, k2, k3, k4, k5⟩ := hU.out w6 B6.out; clear b6))
      go_wp2
      exact ⟨⟨j + 1, by omega, by go_num, k5.out.1, k5.out.2⟩, by simp [intOf]; omega⟩
    · have hlt' : ¬ (j : Int) < (l.length : Int) := by omega
      obtain rfl : j = l.length := by omega
      have hj := hid (joinM_any l _ V hr.out hl (by omega))
      have hlj : (Lib.join (l.map itemM) [44]).length ≤ 35184372088830 := by omega
      have e : Hid (([123] : Tx) ++ (Lib.join (l.map itemM) [44] ++ [125]) = printM l) := rfl
      have htn := hid (fun (W : World) (t : TypeId) => together_new [123] (Lib.join (l.map itemM) [44]) [125] W (by simp; omega) t)
      rw [e.out] at htn
      clear hr
      generalize Lib.join (l.map itemM) [44] = z at *
      unfold str at *
      go_wp2_with (first | (go_at_call 93; refine hj.out.mono ?_; rintro e w' ⟨rfl, b8⟩; replace b8 := hid (low' hB.out b8)) | (go_at_call 90; refine (htn.out _ _).mono ?_; rintro e w' ⟨rfl, b9⟩))
      go_ret
      exact ⟨rfl, low' b8.out b9⟩
end Go.Proofs.YtjhodmpgggaknaaGreatDoor.Mat
