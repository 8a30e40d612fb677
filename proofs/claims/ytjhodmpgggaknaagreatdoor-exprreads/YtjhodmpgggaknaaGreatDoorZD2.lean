/- Contracts of the document's own Plain, MayName, Quoted, blank, digits, number, sign, word, kind. -/
import Derived.Test.YtjhodmpgggaknaaGreatDoorZGH
import Derived.Test.YtjhodmpgggaknaaGreatDoorZD1
namespace Go.Proofs.YtjhodmpgggaknaaGreatDoor
open Go.RowKit Go.Shelf

theorem vlc_no {c : UInt8} (h : (c.toNat : Int) < 32 ∨ 126 < (c.toNat : Int)) : vlc c = false := by
  unfold vlc
  simp
  omega
theorem vlc_ok {c : UInt8} (h : ¬ (c.toNat : Int) < 32 ∧ ¬ 126 < (c.toNat : Int)) : vlc c = true := by
  unfold vlc
  simp
  omega
theorem nmc_no {c : UInt8} (h : ¬ (97 ≤ (c.toNat : Int) ∧ (c.toNat : Int) ≤ 122) ∧ ¬ (48 ≤ (c.toNat : Int) ∧ (c.toNat : Int) ≤ 57) ∧ (c.toNat : Int) ≠ 95) : nmc c = false := by
  unfold nmc low
  simp
  omega
theorem nmc_ok {c : UInt8} (h : (97 ≤ (c.toNat : Int) ∧ (c.toNat : Int) ≤ 122) ∨ (48 ≤ (c.toNat : Int) ∧ (c.toNat : Int) ≤ 57) ∨ (c.toNat : Int) = 95) : nmc c = true := by
  unfold nmc low
  simp
  omega
set_option maxHeartbeats 1000000 in
theorem plain_any (s : Tx) (hs : s.length ≤ 9223372036854775807) (w : World) : Calls Tryz.prog 59 #[str s] w fun e w' => e = .returned (.bool (s.all vlc)) ∧ w' = w := by
  unfold str
  go_enter Tryz.func59, Tryz.ntmps59
  go_wp2
  go_loop [3] (fun iv => ∃ j : Nat, j ≤ s.length ∧ iv = .int .i64 j ∧ Hid (∀ i, i < j → vlc (s.getD i 0) = true)) (fun iv => s.length - (intOf iv).toNat)
  case atStart => exact ⟨0, by omega, rfl, fun i hi => by omega⟩
  case round =>
    obtain ⟨j, hj, rfl, hp⟩ := hrel
    by_cases hlt : j < s.length
    · have hlt' : (j : Int) < (s.length : Int) := by omega
      have hget := get_at hlt
      obtain ⟨c, hcd⟩ : ∃ c, c = s.getD j 0 := ⟨_, rfl⟩
      rw [← hcd] at hget
      have hcm : c ∈ s := by rw [hcd]; simp [List.getD, List.getElem?_eq_getElem hlt]
      have hbad : vlc c = false → Hid (false = s.all vlc) := fun hf => by
        unfold Hid
        rw [List.all_eq_false.2 ⟨c, hcm, by rw [hf]; simp⟩]
      have hgood : vlc c = true → Hid (∀ i, i < j + 1 → vlc (s.getD i 0) = true) := fun hf i hi => by
        by_cases h : i = j
        · subst h; rw [← hcd]; exact hf
        · exact hp.out i (by omega)
      replace hbad := hid hbad
      replace hgood := hid hgood
      clear hp hcd hcm
      go_wp2
      all_goals first
        | (have e := hbad.out (vlc_no (by omega))
           go_ret
           exact ⟨ret_bool e.out, rfl⟩)
        | (have e := hgood.out (vlc_ok (by omega))
           exact ⟨⟨j + 1, by omega, by go_num, e⟩, by simp [intOf]; omega⟩)
    · have hlt' : ¬ (j : Int) < (s.length : Int) := by omega
      obtain rfl : j = s.length := by omega
      have e : Hid (true = s.all vlc) := by
        unfold Hid
        symm
        rw [List.all_eq_true]
        intro c hc
        obtain ⟨i, hi⟩ := List.mem_iff_getElem?.1 hc
        have := hp.out i (List.getElem?_eq_some_iff.1 hi).1
        simpa [List.getD, hi] using this
      clear hp
      go_wp2
      go_ret
      exact ⟨ret_bool e.out, rfl⟩
theorem mayN_false {s : Tx} (h : mayB 16 nmc s = false ∨ low (s.headD 0) = false) : Hid (false = mayN s) := by
  unfold Hid mayN
  rcases h with h | h
  · rw [h]; rfl
  · rw [h]; simp
set_option maxHeartbeats 1000000 in
theorem rmayName_any (s : Tx) (hs : s.length ≤ 9223372036854775807) (w : World) : Calls Tryz.prog 106 #[str s] w fun e w' => e = .returned (.bool (mayN s)) ∧ w' = w := by
  unfold str
  by_cases h0 : s.length = 0
  · obtain rfl := List.eq_nil_of_length_eq_zero h0
    go_enter Tryz.func106, Tryz.ntmps106
    go_wp2
    go_ret
    exact ⟨rfl, rfl⟩
  have d1 : decide ((s.length : Int) < 1) = false := by simp; omega
  by_cases h16 : 16 < s.length
  · have d2 : decide (16 < (s.length : Int)) = true := by simp; omega
    have d2' : decide (16 < s.length) = true := by simp; omega
    have e : Hid (false = mayN s) := mayN_false (.inl (by unfold mayB; rw [decide_eq_false (by omega : ¬ s.length ≤ 16)]; simp))
    clear h0
    go_enter Tryz.func106, Tryz.ntmps106
    go_wp2
    go_ret
    exact ⟨ret_bool e.out, rfl⟩
  have d2 : decide (16 < (s.length : Int)) = false := by simp; omega
  have d2' : decide (16 < s.length) = false := by simp; omega
  have hget := get_at (s := s) (j := 0) (by omega)
  obtain ⟨c, hcd⟩ : ∃ c, c = s.getD 0 0 := ⟨_, rfl⟩
  rw [← hcd] at hget
  have hh : s.headD 0 = c := by
    rw [hcd]
    cases s <;> simp
  have hl0 : (0 : Int) < (s.length : Int) := by omega
  have hl0' : 0 < s.length := by omega
  cases hlo : low c
  · have e : Hid (false = mayN s) := mayN_false (.inr (by rw [hh]; exact hlo))
    have hcc : c.toNat < 97 ∨ 122 < c.toNat := by
      unfold low at hlo
      simp at hlo
      omega
    clear hh hlo hcd
    rcases hcc with h | h
    · have h' : decide ((c.toNat : Int) < 97) = true := by simp; omega
      clear h
      go_enter Tryz.func106, Tryz.ntmps106
      go_wp2
      go_ret
      exact ⟨ret_bool e.out, rfl⟩
    · have h' : decide (122 < (c.toNat : Int)) = true := by simp; omega
      have h'' : decide ((c.toNat : Int) < 97) = false := by simp; omega
      clear h
      go_enter Tryz.func106, Tryz.ntmps106
      go_wp2
      go_ret
      exact ⟨ret_bool e.out, rfl⟩
  have d3 : decide ((c.toNat : Int) < 97) = false := by
    unfold low at hlo
    simp at hlo ⊢
    omega
  have d4 : decide (122 < (c.toNat : Int)) = false := by
    unfold low at hlo
    simp at hlo ⊢
    omega
  have hm : Hid (mayB 16 nmc s = mayN s) := by unfold Hid mayN; rw [hh, hlo]; simp
  have hne : Hid (s ≠ [] ∧ s.length ≤ 16) := ⟨by rintro rfl; simp at h0, by omega⟩
  clear hlo hh hcd
  go_enter Tryz.func106, Tryz.ntmps106
  go_wp2
  go_loop [3] (fun iv => ∃ j : Nat, j ≤ s.length ∧ iv = .int .i64 j ∧ Hid (∀ i, i < j → nmc (s.getD i 0) = true)) (fun iv => s.length - (intOf iv).toNat)
  case atStart => exact ⟨0, by omega, rfl, fun i hi => by omega⟩
  case round =>
    obtain ⟨j, hj, rfl, hp⟩ := hrel
    by_cases hlt : j < s.length
    · have hlt' : (j : Int) < (s.length : Int) := by omega
      clear hget
      have hget := get_at hlt
      obtain ⟨x, hcd⟩ : ∃ c, c = s.getD j 0 := ⟨_, rfl⟩
      rw [← hcd] at hget
      have hcm : x ∈ s := by rw [hcd]; simp [List.getD, List.getElem?_eq_getElem hlt]
      have hbad : nmc x = false → Hid (false = mayN s) := fun hf => by
        unfold Hid
        rw [← hm.out]
        unfold mayB
        rw [List.all_eq_false.2 ⟨x, hcm, by rw [hf]; simp⟩]
        simp
      have hgood : nmc x = true → Hid (∀ i, i < j + 1 → nmc (s.getD i 0) = true) := fun hf i hi => by
        by_cases h : i = j
        · subst h; rw [← hcd]; exact hf
        · exact hp.out i (by omega)
      replace hbad := hid hbad
      replace hgood := hid hgood
      clear hp hcd hcm
      go_wp2
      all_goals (try simp only [Bool.not_eq_true', Bool.not_eq_false', decide_eq_false_iff_not, decide_eq_true_iff, beq_iff_eq, beq_eq_false_iff_ne, ne_eq] at *)
      all_goals first
        | (have e := hbad.out (nmc_no (by omega))
           go_ret
           exact ⟨ret_bool e.out, rfl⟩)
        | (have e := hgood.out (nmc_ok (by omega))
           exact ⟨⟨j + 1, by omega, by go_num, e⟩, by simp [intOf]; omega⟩)
    · have hlt' : ¬ (j : Int) < (s.length : Int) := by omega
      obtain rfl : j = s.length := by omega
      have e : Hid (true = mayN s) := by
        unfold Hid
        rw [← hm.out]
        symm
        rw [mayB_iff]
        refine ⟨hne.out.1, hne.out.2, fun c hc => ?_⟩
        obtain ⟨i, hi⟩ := List.mem_iff_getElem?.1 hc
        have := hp.out i (List.getElem?_eq_some_iff.1 hi).1
        simpa [List.getD, hi] using this
      clear hp
      go_wp2
      go_ret
      exact ⟨ret_bool e.out, rfl⟩
/-- a value in quotes, and how many bytes that has. -/
def quotedV (s : Tx) : Option (Tx × Tx) → Value
  | none => .tuple #[str [], .int .i64 0]
  | some (v, r) => .tuple #[str v, .int .i64 ((s.length - r.length : Nat) : Int)]
set_option maxHeartbeats 4000000 in
theorem quoted_any (s : Tx) (w : World) (hs : s.length ≤ 35184372088832) : Calls Tryz.prog 58 #[str s] w fun e w' => e = .returned (quotedV s (takeV s)) ∧ w' = w := by
  by_cases hl0 : s.length = 0
  · obtain rfl := List.eq_nil_of_length_eq_zero hl0
    unfold takeV quotedV str
    go_enter Tryz.func58, Tryz.ntmps58
    go_wp2
    go_ret2
    exact ⟨rfl, rfl⟩
  have hl1 : 0 < s.length := by omega
  have hl1' : (0 : Int) < (s.length : Int) := by omega
  have he : s.isEmpty = false := by cases s <;> simp_all
  have hget0 := get_at hl1
  have hdr0 := drop_at hl1
  obtain ⟨c0, hc00⟩ : ∃ c, c = s.getD 0 0 := ⟨_, rfl⟩
  rw [← hc00] at hget0 hdr0
  rw [List.drop_zero, Nat.zero_add] at hdr0
  clear hc00
  by_cases h0 : c0.toNat = 34
  · have hc0 : c0 = 34 := UInt8.toNat_inj.1 h0
    have t0 : ((c0.toNat : Int) == 34) = true := by simp; omega
    have t0' : ((c0.toNat : Int) != 34) = false := by simp; omega
    have hR0 : takeV s = unq [] (s.drop 1) := by
      rw [hdr0, takeV, if_pos hc0]; rfl
    rw [hR0]
    clear hR0 h0 hc0 hdr0 hl0
    generalize hR : quotedV s (unq [] (s.drop 1)) = R
    replace hR := hid hR
    unfold str
    go_enter Tryz.func58, Tryz.ntmps58
    go_wp2
    go_loop [4, 5] (fun vv iv => ∃ (i : Nat) (acc : Tx), i ≤ s.length ∧ acc.length ≤ i ∧ iv = .int .i64 (i : Int) ∧ vv = .string ⟨acc.toArray⟩ ∧ Hid (quotedV s (unq acc (s.drop i)) = R)) (fun _ iv => s.length - (intOf iv).toNat)
    case atStart => exact ⟨1, [], hl1, by simp, rfl, rfl, hR⟩
    case round =>
      obtain ⟨i, acc, hi, hal, rfl, rfl, hu⟩ := hrel
      clear hR
      by_cases hlt : i < s.length
      · have hlt' : (i : Int) < (s.length : Int) := by omega
        have hget := get_at hlt
        obtain ⟨c, hcd⟩ : ∃ c, c = s.getD i 0 := ⟨_, rfl⟩
        have hone := ext_one hlt
        rw [← hcd] at hget hone
        have hdr := drop_at hlt
        rw [← hcd] at hdr
        clear hcd
        have c5 : IntKind.i64.wrap ((i : Int) + 1) = (i : Int) + 1 := by rw [IntKind.wrap_i64]; omega
        by_cases h34 : c.toNat = 34
        · have t1 : ((c.toNat : Int) == 34) = true := by simp; omega
          have hc : c = 34 := UInt8.toNat_inj.1 h34
          have hR : Hid (Value.tuple #[.string ⟨acc.toArray⟩, .int .i64 ((i : Int) + 1)] = R) := by
            unfold Hid
            rw [← hu.out, hdr, hc, unq_q]
            have : ((s.length - (s.drop (i + 1)).length : Nat) : Int) = (i : Int) + 1 := by simp; omega
            show _ = Value.tuple #[.string ⟨acc.toArray⟩, .int .i64 ((s.length - (s.drop (i + 1)).length : Nat) : Int)]
            rw [this]
          clear h34 hu hdr hc
          go_wp2
          go_ret2
          exact ⟨congrArg Ending.returned hR.out, rfl⟩
        have t1 : ((c.toNat : Int) == 34) = false := by simp; omega
        have h34' : c ≠ 34 := by rintro rfl; exact h34 rfl
        have hk1 : (9223372036854775807 < acc.length + 1) = False := eq_false (by omega)
        by_cases h92 : c.toNat = 92
        · have t2 : ((c.toNat : Int) == 92) = true := by simp; omega
          have hc : c = 92 := UInt8.toNat_inj.1 h92
          by_cases hend : i + 1 = s.length
          · have hR : Hid (Value.tuple #[.string ⟨#[]⟩, .int .i64 0] = R) := by
              unfold Hid
              rw [← hu.out, hdr, hc, List.drop_eq_nil_of_le (by omega), unq_b0]
              rfl
            have t3 : ((i : Int) + 1 == (s.length : Int)) = true := by simp; omega
            clear hu hdr hc h92 h34 h34' hend
            go_wp2
            go_ret2
            exact ⟨congrArg Ending.returned hR.out, rfl⟩
          · have t3 : ((i : Int) + 1 == (s.length : Int)) = false := by simp; omega
            have hlt2 : i + 1 < s.length := by omega
            have hlt2' : (i : Int) + 1 < (s.length : Int) := by omega
            have hget2 := get_at hlt2
            have hone2 := ext_one hlt2
            obtain ⟨d, hdd⟩ : ∃ d, d = s.getD (i + 1) 0 := ⟨_, rfl⟩
            rw [← hdd] at hget2 hone2
            have hdr2 := drop_at hlt2
            rw [← hdd] at hdr2
            clear hdd
            have c6 : IntKind.i64.wrap ((i : Int) + 1 + 1) = (i : Int) + 1 + 1 := by rw [IntKind.wrap_i64]; omega
            by_cases hd : d.toNat = 34 ∨ d.toNat = 92
            · have hsd : spc d = true := by
                unfold spc
                rcases hd with h | h <;> simp [h]
              have hu' : Hid (quotedV s (unq (acc ++ [d]) (s.drop (i + 1 + 1))) = R) := by
                unfold Hid
                rw [← hu.out, hdr, hc, hdr2, unq_b _ _ hsd]
              have hnew : Hid (Value.string (⟨acc.toArray⟩ ++ (⟨s.toArray⟩ : ByteArray).extract (i + 1) (i + 1 + 1)) = .string ⟨(acc ++ [d]).toArray⟩) := by
                unfold Hid
                rw [hone2, app_str]
              have hal3 : (acc ++ [d]).length ≤ i + 1 + 1 := by simp; omega
              clear hu hdr hdr2 hc h92 h34 h34' hend hone hone2 hsd
              rcases hd with h | h
              · have u1 : ((d.toNat : Int) == 34) = true := by simp; omega
                have u2 : ((d.toNat : Int) == 92) = false := by simp; omega
                have u3 : ((d.toNat : Int) != 34) = false := by simp; omega
                clear h
                go_wp2
                exact ⟨⟨i + 1 + 1, acc ++ [d], by omega, hal3, by go_num, hnew.out, hu'⟩, by simp [intOf]; omega⟩
              · have u1 : ((d.toNat : Int) == 34) = false := by simp; omega
                have u2 : ((d.toNat : Int) == 92) = true := by simp; omega
                have u3 : ((d.toNat : Int) != 34) = true := by simp; omega
                have u4 : ((d.toNat : Int) != 92) = false := by simp; omega
                clear h
                go_wp2
                exact ⟨⟨i + 1 + 1, acc ++ [d], by omega, hal3, by go_num, hnew.out, hu'⟩, by simp [intOf]; omega⟩
            · have hsd : spc d = false := by
                unfold spc
                simp
                omega
              have u1 : ((d.toNat : Int) == 34) = false := by simp; omega
              have u2 : ((d.toNat : Int) == 92) = false := by simp; omega
              have u3 : ((d.toNat : Int) != 34) = true := by simp; omega
              have u4 : ((d.toNat : Int) != 92) = true := by simp; omega
              have hR : Hid (Value.tuple #[.string ⟨#[]⟩, .int .i64 0] = R) := by
                unfold Hid
                rw [← hu.out, hdr, hc, hdr2, unq_bad _ _ hsd]
                rfl
              clear hu hdr hdr2 hc h92 h34 h34' hend hd hsd
              go_wp2
              go_ret2
              exact ⟨congrArg Ending.returned hR.out, rfl⟩
        · have t2 : ((c.toNat : Int) == 92) = false := by simp; omega
          have h92' : c ≠ 92 := by rintro rfl; exact h92 rfl
          have hu' : Hid (quotedV s (unq (acc ++ [c]) (s.drop (i + 1))) = R) := by
            unfold Hid
            rw [← hu.out, hdr, unq_c _ _ h34' h92']
          have hnew : Hid (Value.string (⟨acc.toArray⟩ ++ (⟨s.toArray⟩ : ByteArray).extract i (i + 1)) = .string ⟨(acc ++ [c]).toArray⟩) := by
            unfold Hid
            rw [hone, app_str]
          have hal3 : (acc ++ [c]).length ≤ i + 1 := by simp; omega
          clear hu hdr h92 h92' h34 h34' hone
          go_wp2
          exact ⟨⟨i + 1, acc ++ [c], by omega, hal3, by go_num, hnew.out, hu'⟩, by simp [intOf]; omega⟩
      · have hlt' : ¬ (i : Int) < (s.length : Int) := by omega
        have hR : Hid (Value.tuple #[.string ⟨#[]⟩, .int .i64 0] = R) := by
          unfold Hid
          rw [← hu.out, List.drop_eq_nil_of_le (by omega), unq_nil]
          rfl
        clear hu
        go_wp2
        go_ret2
        exact ⟨congrArg Ending.returned hR.out, rfl⟩
  · have t0 : ((c0.toNat : Int) == 34) = false := by simp; omega
    have t0' : ((c0.toNat : Int) != 34) = true := by simp; omega
    have hR0 : takeV s = none := by
      rw [hdr0, takeV, if_neg (fun e => h0 (by rw [e]; rfl))]
    rw [hR0]
    unfold quotedV str
    clear hR0 h0 hdr0 hl0
    go_enter Tryz.func58, Tryz.ntmps58
    go_wp2
    go_ret2
    exact ⟨rfl, rfl⟩
theorem blank_any (c : UInt8) (w : World) : Calls Tryz.prog 38 #[.int .u8 (c.toNat : Int)] w fun e w' => e = .returned (.bool (blk c)) ∧ w' = w := by
  by_cases h32 : c.toNat = 32
  · have e : Hid (true = blk c) := by unfold Hid blk; simp [h32]
    have t32 : ((c.toNat : Int) == 32) = true := by simp; omega
    clear h32
    go_enter Tryz.func38, Tryz.ntmps38
    go_wp2
    go_ret
    exact ⟨ret_bool e.out, rfl⟩
  have t32 : ((c.toNat : Int) == 32) = false := by simp; omega
  by_cases h9 : c.toNat = 9
  · have e : Hid (true = blk c) := by unfold Hid blk; simp [h9]
    have t9 : ((c.toNat : Int) == 9) = true := by simp; omega
    clear h9
    go_enter Tryz.func38, Tryz.ntmps38
    go_wp2
    go_ret
    exact ⟨ret_bool e.out, rfl⟩
  have t9 : ((c.toNat : Int) == 9) = false := by simp; omega
  by_cases h10 : c.toNat = 10
  · have e : Hid (true = blk c) := by unfold Hid blk; simp [h10]
    have t10 : ((c.toNat : Int) == 10) = true := by simp; omega
    clear h10
    go_enter Tryz.func38, Tryz.ntmps38
    go_wp2
    go_ret
    exact ⟨ret_bool e.out, rfl⟩
  have t10 : ((c.toNat : Int) == 10) = false := by simp; omega
  by_cases h13 : c.toNat = 13
  · have e : Hid (true = blk c) := by unfold Hid blk; simp [h13]
    have t13 : ((c.toNat : Int) == 13) = true := by simp; omega
    clear h13
    go_enter Tryz.func38, Tryz.ntmps38
    go_wp2
    go_ret
    exact ⟨ret_bool e.out, rfl⟩
  have t13 : ((c.toNat : Int) == 13) = false := by simp; omega
  have e : Hid (false = blk c) := by unfold Hid blk; simp [h32, h9, h10, h13]
  clear h32 h9 h10 h13
  go_enter Tryz.func38, Tryz.ntmps38
  go_wp2
  go_ret
  exact ⟨ret_bool e.out, rfl⟩
theorem ne_beq {s : Tx} (h : s ≠ []) : s.isEmpty = false := by cases s <;> simp_all
set_option maxHeartbeats 1000000 in
theorem digits_any (s : Tx) (hs : s.length ≤ 9223372036854775806) (w : World) : Calls Tryz.prog 107 #[str s] w fun e w' => e = .returned (.bool (digsR s)) ∧ w' = w := by
  unfold str
  go_enter Tryz.func107, Tryz.ntmps107
  go_wp2
  go_loop [3] (fun iv => ∃ j : Nat, j ≤ s.length ∧ iv = .int .i64 j ∧ Hid (∀ i, i < j → dig (s.getD i 0) = true)) (fun iv => s.length - (intOf iv).toNat)
  case atStart => exact ⟨0, by omega, rfl, fun i hi => by omega⟩
  case round =>
    obtain ⟨j, hj, rfl, hp⟩ := hrel
    by_cases hlt : j < s.length
    · have hlt' : (j : Int) < (s.length : Int) := by omega
      have hget := get_at hlt
      obtain ⟨c, hcd⟩ : ∃ c, c = s.getD j 0 := ⟨_, rfl⟩
      rw [← hcd] at hget
      have hcm : c ∈ s := by rw [hcd]; simp [List.getD, List.getElem?_eq_getElem hlt]
      by_cases hd : 48 ≤ c.toNat ∧ c.toNat ≤ 57
      · have hp' : Hid (∀ i, i < j + 1 → dig (s.getD i 0) = true) := fun i hi => by
          by_cases h : i = j
          · subst h; rw [← hcd]; unfold dig; simp [hd.1, hd.2]
          · exact hp.out i (by omega)
        have t1 : ¬ (c.toNat : Int) < 48 := by omega
        have t2 : ¬ (57 : Int) < (c.toNat : Int) := by omega
        clear hp hcd hcm hd
        go_wp2
        exact ⟨⟨j + 1, by omega, by go_num, hp'⟩, by simp [intOf]; omega⟩
      · have e : Hid (false = digsR s) := by
          unfold Hid digsR
          rw [List.all_eq_false.2 ⟨c, hcm, by unfold dig; simp; omega⟩]
          simp
        clear hp hcd hcm
        by_cases h1 : c.toNat < 48
        · have t1 : (c.toNat : Int) < 48 := by omega
          clear h1 hd
          go_wp2
          go_ret
          exact ⟨ret_bool e.out, rfl⟩
        · have t1 : ¬ (c.toNat : Int) < 48 := by omega
          have t2 : (57 : Int) < (c.toNat : Int) := by omega
          clear h1 hd
          go_wp2
          go_ret
          exact ⟨ret_bool e.out, rfl⟩
    · have hlt' : ¬ (j : Int) < (s.length : Int) := by omega
      obtain rfl : j = s.length := by omega
      have hall : s.all dig = true := by
        rw [List.all_eq_true]
        intro c hc
        obtain ⟨i, hi⟩ := List.mem_iff_getElem?.1 hc
        have := hp.out i (List.getElem?_eq_some_iff.1 hi).1
        simpa [List.getD, hi] using this
      by_cases h0 : s = []
      · subst h0
        clear hp hall
        go_wp2
        go_ret
        exact ⟨rfl, rfl⟩
      · have e : Hid (true = digsR s) := by unfold Hid digsR; rw [hall, ne_beq h0]; rfl
        have hemp := ne_beq h0
        clear hp hall h0
        go_wp2
        go_ret
        exact ⟨ret_bool e.out, rfl⟩
set_option maxHeartbeats 1000000 in
theorem rnumber_any (s : Tx) (hs : s.length ≤ 9223372036854775800) (w : World) : Calls Tryz.prog 83 #[str s] w fun e w' => e = .returned (.bool (numB s)) ∧ w' = w := by
  have hall := hid (digits_any s (by omega))
  have hpt := hid (fun (x : Tx) (hx : x.length ≤ s.length) => digits_any x (by omega))
  unfold str at *
  go_enter Tryz.func83, Tryz.ntmps83
  go_wp2
  go_loop [3] (fun iv => ∃ j : Nat, j ≤ s.length ∧ iv = .int .i64 j ∧ Hid (∀ i, i < j → nd (s.getD i 0) = true)) (fun iv => s.length - (intOf iv).toNat)
  case atStart => exact ⟨0, by omega, rfl, fun i hi => by omega⟩
  case round =>
    obtain ⟨j, hj, rfl, hp⟩ := hrel
    by_cases hlt : j < s.length
    · have hlt' : (j : Int) < (s.length : Int) := by omega
      have hget := get_at hlt
      obtain ⟨c, hcd⟩ : ∃ c, c = s.getD j 0 := ⟨_, rfl⟩
      rw [← hcd] at hget
      by_cases h46 : c.toNat = 46
      · have t1 : ((c.toNat : Int) == 46) = true := by simp; omega
        have hn : cnt nd s = j := cnt_eq s j hj hp.out (fun _ => by rw [← hcd]; unfold nd; simp [h46])
        have e : Hid (numB s = (digsR (s.take j) && digsR (s.drop (j + 1)))) := by
          unfold Hid numB
          rw [hn, if_neg (by omega)]
        have e1 := ext_to s j
        have e2 := ext_from s (j + 1) s.length rfl
        have h1 := hid (hpt.out (s.take j) (by simp; omega))
        have h2 := hid (hpt.out (s.drop (j + 1)) (by simp))
        have c3 : (0 : Int) ≤ (j : Int) := by omega
        have c4 : (j : Int) ≤ (s.length : Int) := by omega
        have c5 : IntKind.i64.wrap ((j : Int) + 1) = (j : Int) + 1 := by rw [IntKind.wrap_i64]; omega
        have c6 : (0 : Int) ≤ (j : Int) + 1 := by omega
        have c7 : (j : Int) + 1 ≤ (s.length : Int) := by omega
        clear hp hcd h46 hn hall hpt
        generalize s.take j = x at *
        generalize s.drop (j + 1) = y at *
        cases hx : digsR x
        · rw [hx] at h1 e
          have e' : Hid (false = numB s) := by unfold Hid; rw [e.out]; rfl
          clear e hx h2
          go_wp2_with (go_at_call 107; refine (h1.out _).mono ?_; rintro e w' ⟨rfl, hw'⟩; have hw2 := hw'.symm; subst hw2)
          go_ret
          exact ⟨ret_bool e'.out, rfl⟩
        · rw [hx] at h1 e
          have e' : Hid (digsR y = numB s) := by unfold Hid; rw [e.out]; rfl
          clear e hx
          generalize digsR y = q at *
          go_wp2_with (go_at_call 107; first | (refine (h1.out _).mono ?_; clear h1; rintro e w' ⟨rfl, hw'⟩; have hw2 := hw'.symm; subst hw2) | (refine (h2.out _).mono ?_; rintro e w' ⟨rfl, hw'⟩; have hw2 := hw'.symm; subst hw2))
          go_ret
          exact ⟨ret_bool e'.out, rfl⟩
      · have t1 : ((c.toNat : Int) == 46) = false := by simp; omega
        have hp' : Hid (∀ i, i < j + 1 → nd (s.getD i 0) = true) := fun i hi => by
          by_cases h : i = j
          · subst h; rw [← hcd]; unfold nd; simp [h46]
          · exact hp.out i (by omega)
        clear hp hcd h46 hall hpt
        go_wp2
        exact ⟨⟨j + 1, by omega, by go_num, hp'⟩, by simp [intOf]; omega⟩
    · have hlt' : ¬ (j : Int) < (s.length : Int) := by omega
      obtain rfl : j = s.length := by omega
      have hn : cnt nd s = s.length := cnt_eq s s.length hj hp.out (fun h => absurd h (by omega))
      have e : Hid (digsR s = numB s) := by unfold Hid numB; rw [hn, if_pos rfl]
      clear hp hn hpt
      generalize digsR s = q at *
      go_wp2_with (go_at_call 107; refine (hall.out _).mono ?_; rintro e w' ⟨rfl, hw'⟩; have hw2 := hw'.symm; subst hw2)
      go_ret
      exact ⟨ret_bool e.out, rfl⟩
set_option maxHeartbeats 2000000 in
theorem rsign_any (s : Tx) (w : World) : Calls Tryz.prog 84 #[str s] w fun e w' => e = .returned (.bool (signB s)) ∧ Below w.heap.size w w' := by
  unfold str
  go_enter Tryz.func84, Tryz.ntmps84
  go_wp2
  obtain ⟨V, hV⟩ : ∃ V, w.alloc (.cells (signs.map str).toArray 9) = V := ⟨_, rfl⟩
  have hnb := new_block w (.cells (signs.map str).toArray 9)
  have hbl := alloc_below w (.cells (signs.map str).toArray 9)
  rw [hV] at hnb hbl
  have hcell : Hid (∀ j, j < 18 → V.cell? ⟨w.heap.size, j, none⟩ = some (.string ⟨(signs.getD j []).toArray⟩)) := fun j hj => by
    have hl : signs.length = 18 := rfl
    rw [cell_of hnb]
    simp [List.getD, List.getElem?_eq_getElem (show j < signs.length by omega), str]
  replace hV : w.alloc (.cells #[.string ⟨#[60, 61]⟩, .string ⟨#[62, 61]⟩, .string ⟨#[61, 61]⟩, .string ⟨#[33, 61]⟩, .string ⟨#[94, 61]⟩, .string ⟨#[123]⟩, .string ⟨#[125]⟩, .string ⟨#[40]⟩, .string ⟨#[41]⟩, .string ⟨#[91]⟩, .string ⟨#[93]⟩, .string ⟨#[44]⟩, .string ⟨#[58]⟩, .string ⟨#[59]⟩, .string ⟨#[61]⟩, .string ⟨#[60]⟩, .string ⟨#[62]⟩, .string ⟨#[45]⟩] 9) = V := hV
  rw [hV]
  replace hbl := hid hbl
  clear hV hnb
  go_loop [4] (fun iv => ∃ j : Nat, j ≤ 18 ∧ iv = .int .i64 j ∧ Hid (∀ i, i < j → signs.getD i [] ≠ s)) (fun iv => 18 - (intOf iv).toNat)
  case atStart => exact ⟨0, by omega, rfl, fun i hi => by omega⟩
  case round =>
    obtain ⟨j, hj, rfl, hp⟩ := hrel
    by_cases hlt : j < 18
    · have hlt' : (j : Int) < 18 := by omega
      have hc := hcell.out j hlt
      have hl : signs.length = 18 := rfl
      have hmem : signs.getD j [] ∈ signs := by
        rw [show signs.getD j [] = signs[j]'(by omega) by simp [List.getD, List.getElem?_eq_getElem (show j < signs.length by omega)]]
        exact List.getElem_mem _
      generalize hx : signs.getD j [] = x at *
      by_cases he : x = s
      · have t1 : (x == s) = true := by simpa using he
        have e : Hid (true = signB s) := by
          unfold Hid signB
          rw [← he]
          symm
          rw [List.contains_iff_mem]
          exact hmem
        clear hp hcell hx hmem he hl
        go_wp2
        go_ret
        exact ⟨ret_bool e.out, hbl.out⟩
      · have t1 : (x == s) = false := by simpa using he
        have hp' : Hid (∀ i, i < j + 1 → signs.getD i [] ≠ s) := fun i hi => by
          by_cases h : i = j
          · subst h; rw [hx]; exact he
          · exact hp.out i (by omega)
        clear hp hx hmem he hl
        go_wp2
        exact ⟨⟨j + 1, by omega, by go_num, hp'⟩, by simp [intOf]; omega⟩
    · have hlt' : ¬ (j : Int) < 18 := by omega
      obtain rfl : j = 18 := by omega
      have e : Hid (false = signB s) := by
        unfold Hid
        symm
        unfold signB
        cases hb : signs.contains s
        · rfl
        · exfalso
          rw [List.contains_iff_mem] at hb
          obtain ⟨i, hi⟩ := List.mem_iff_getElem?.1 hb
          have hl : signs.length = 18 := rfl
          have hi2 := (List.getElem?_eq_some_iff.1 hi).1
          exact hp.out i (by omega) (by simp [List.getD, hi])
      clear hp hcell
      go_wp2
      go_ret
      exact ⟨ret_bool e.out, hbl.out⟩
end Go.Proofs.YtjhodmpgggaknaaGreatDoor
