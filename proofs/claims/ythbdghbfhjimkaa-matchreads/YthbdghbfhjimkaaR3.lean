/- Contract of the document's Quoted. -/
import Derived.Test.YthbdghbfhjimkaaV1
import Derived.Test.YthbdghbfhjimkaaQ1
namespace Go.Proofs.Ythbdghbfhjimkaa
open Go.RowKit Go.Shelf

/-- a value in quotes, and how many bytes that has. -/
def quotedV (s : Tx) : Option (Tx × Tx) → Value
  | none => .tuple #[str [], .int .i64 0]
  | some (v, r) => .tuple #[str v, .int .i64 ((s.length - r.length : Nat) : Int)]
set_option maxHeartbeats 4000000 in
theorem quoted_any (s : Tx) (w : World) (hs : s.length ≤ 35184372088832) : Calls Try.prog 50 #[str s] w fun e w' => e = .returned (quotedV s (takeV s)) ∧ w' = w := by
  by_cases hl0 : s.length = 0
  · obtain rfl := List.eq_nil_of_length_eq_zero hl0
    unfold takeV quotedV str
    go_enter Try.func50, Try.ntmps50
    go_wp2
    go_ret2
    exact ⟨rfl, rfl⟩
  have hl1 : 0 < s.length := by omega
  have hl1' : (0 : Int) < (s.length : Int) := by omega
  have he : s.isEmpty = false := by cases s <;> simp_all
  have hget0 := get_at hl1
  have hdr0 := drop_at hl1
  obtain ⟨c0, hc00⟩ : ∃ c, c = s.getD 0 0 := ⟨_, rfl⟩
  rw [← hc00] at hget0 hdr0
  rw [List.drop_zero, Nat.zero_add] at hdr0
  clear hc00
  by_cases h0 : c0.toNat = 34
  · have hc0 : c0 = 34 := UInt8.toNat_inj.1 h0
    have t0 : ((c0.toNat : Int) == 34) = true := by simp; omega
    have t0' : ((c0.toNat : Int) != 34) = false := by simp; omega
    have hR0 : takeV s = unq [] (s.drop 1) := by
      rw [hdr0, takeV, if_pos hc0]; rfl
    rw [hR0]
    clear hR0 h0 hc0 hdr0 hl0
    generalize hR : quotedV s (unq [] (s.drop 1)) = R
    replace hR := hid hR
    unfold str
    go_enter Try.func50, Try.ntmps50
    go_wp2
    go_loop [4, 5] (fun vv iv => ∃ (i : Nat) (acc : Tx), i ≤ s.length ∧ acc.length ≤ i ∧ iv = .int .i64 (i : Int) ∧ vv = .string ⟨acc.toArray⟩ ∧ Hid (quotedV s (unq acc (s.drop i)) = R)) (fun _ iv => s.length - (intOf iv).toNat)
    case atStart => exact ⟨1, [], hl1, by simp, rfl, rfl, hR⟩
    case round =>
      obtain ⟨i, acc, hi, hal, rfl, rfl, hu⟩ := hrel
      clear hR
      by_cases hlt : i < s.length
      · have hlt' : (i : Int) < (s.length : Int) := by omega
        have hget := get_at hlt
        obtain ⟨c, hcd⟩ : ∃ c, c = s.getD i 0 := ⟨_, rfl⟩
        have hone := ext_one hlt
        rw [← hcd] at hget hone
        have hdr := drop_at hlt
        rw [← hcd] at hdr
        clear hcd
        have c5 : IntKind.i64.wrap ((i : Int) + 1) = (i : Int) + 1 := by rw [IntKind.wrap_i64]; omega
        by_cases h34 : c.toNat = 34
        · have t1 : ((c.toNat : Int) == 34) = true := by simp; omega
          have hc : c = 34 := UInt8.toNat_inj.1 h34
          have hR : Hid (Value.tuple #[.string ⟨acc.toArray⟩, .int .i64 ((i : Int) + 1)] = R) := by
            unfold Hid
            rw [← hu.out, hdr, hc, unq_q]
            have : ((s.length - (s.drop (i + 1)).length : Nat) : Int) = (i : Int) + 1 := by simp; omega
            show _ = Value.tuple #[.string ⟨acc.toArray⟩, .int .i64 ((s.length - (s.drop (i + 1)).length : Nat) : Int)]
            rw [this]
          clear h34 hu hdr hc
          go_wp2
          go_ret2
          exact ⟨congrArg Ending.returned hR.out, rfl⟩
        have t1 : ((c.toNat : Int) == 34) = false := by simp; omega
        have h34' : c ≠ 34 := by rintro rfl; exact h34 rfl
        have hk1 : (9223372036854775807 < acc.length + 1) = False := eq_false (by omega)
        by_cases h92 : c.toNat = 92
        · have t2 : ((c.toNat : Int) == 92) = true := by simp; omega
          have hc : c = 92 := UInt8.toNat_inj.1 h92
          by_cases hend : i + 1 = s.length
          · have hR : Hid (Value.tuple #[.string ⟨#[]⟩, .int .i64 0] = R) := by
              unfold Hid
              rw [← hu.out, hdr, hc, List.drop_eq_nil_of_le (by omega), unq_b0]
              rfl
            have t3 : ((i : Int) + 1 == (s.length : Int)) = true := by simp; omega
            clear hu hdr hc h92 h34 h34' hend
            go_wp2
            go_ret2
            exact ⟨congrArg Ending.returned hR.out, rfl⟩
          · have t3 : ((i : Int) + 1 == (s.length : Int)) = false := by simp; omega
            have hlt2 : i + 1 < s.length := by omega
            have hlt2' : (i : Int) + 1 < (s.length : Int) := by omega
            have hget2 := get_at hlt2
            have hone2 := ext_one hlt2
            obtain ⟨d, hdd⟩ : ∃ d, d = s.getD (i + 1) 0 := ⟨_, rfl⟩
            rw [← hdd] at hget2 hone2
            have hdr2 := drop_at hlt2
            rw [← hdd] at hdr2
            clear hdd
            have c6 : IntKind.i64.wrap ((i : Int) + 1 + 1) = (i : Int) + 1 + 1 := by rw [IntKind.wrap_i64]; omega
            by_cases hd : d.toNat = 34 ∨ d.toNat = 92
            · have hsd : spc d = true := by
                unfold spc
                rcases hd with h | h <;> simp [h]
              have hu' : Hid (quotedV s (unq (acc ++ [d]) (s.drop (i + 1 + 1))) = R) := by
                unfold Hid
                rw [← hu.out, hdr, hc, hdr2, unq_b _ _ hsd]
              have hnew : Hid (Value.string (⟨acc.toArray⟩ ++ (⟨s.toArray⟩ : ByteArray).extract (i + 1) (i + 1 + 1)) = .string ⟨(acc ++ [d]).toArray⟩) := by
                unfold Hid
                rw [hone2, app_str]
              have hal3 : (acc ++ [d]).length ≤ i + 1 + 1 := by simp; omega
              clear hu hdr hdr2 hc h92 h34 h34' hend hone hone2 hsd
              rcases hd with h | h
              · have u1 : ((d.toNat : Int) == 34) = true := by simp; omega
                have u2 : ((d.toNat : Int) == 92) = false := by simp; omega
                have u3 : ((d.toNat : Int) != 34) = false := by simp; omega
                clear h
                go_wp2
                exact ⟨⟨i + 1 + 1, acc ++ [d], by omega, hal3, by go_num, hnew.out, hu'⟩, by simp [intOf]; omega⟩
              · have u1 : ((d.toNat : Int) == 34) = false := by simp; omega
                have u2 : ((d.toNat : Int) == 92) = true := by simp; omega
                have u3 : ((d.toNat : Int) != 34) = true := by simp; omega
                have u4 : ((d.toNat : Int) != 92) = false := by simp; omega
                clear h
                go_wp2
                exact ⟨⟨i + 1 + 1, acc ++ [d], by omega, hal3, by go_num, hnew.out, hu'⟩, by simp [intOf]; omega⟩
            · have hsd : spc d = false := by
                unfold spc
                simp
                omega
              have u1 : ((d.toNat : Int) == 34) = false := by simp; omega
              have u2 : ((d.toNat : Int) == 92) = false := by simp; omega
              have u3 : ((d.toNat : Int) != 34) = true := by simp; omega
              have u4 : ((d.toNat : Int) != 92) = true := by simp; omega
              have hR : Hid (Value.tuple #[.string ⟨#[]⟩, .int .i64 0] = R) := by
                unfold Hid
                rw [← hu.out, hdr, hc, hdr2, unq_bad _ _ hsd]
                rfl
              clear hu hdr hdr2 hc h92 h34 h34' hend hd hsd
              go_wp2
              go_ret2
              exact ⟨congrArg Ending.returned hR.out, rfl⟩
        · have t2 : ((c.toNat : Int) == 92) = false := by simp; omega
          have h92' : c ≠ 92 := by rintro rfl; exact h92 rfl
          have hu' : Hid (quotedV s (unq (acc ++ [c]) (s.drop (i + 1))) = R) := by
            unfold Hid
            rw [← hu.out, hdr, unq_c _ _ h34' h92']
          have hnew : Hid (Value.string (⟨acc.toArray⟩ ++ (⟨s.toArray⟩ : ByteArray).extract i (i + 1)) = .string ⟨(acc ++ [c]).toArray⟩) := by
            unfold Hid
            rw [hone, app_str]
          have hal3 : (acc ++ [c]).length ≤ i + 1 := by simp; omega
          clear hu hdr h92 h92' h34 h34' hone
          go_wp2
          exact ⟨⟨i + 1, acc ++ [c], by omega, hal3, by go_num, hnew.out, hu'⟩, by simp [intOf]; omega⟩
      · have hlt' : ¬ (i : Int) < (s.length : Int) := by omega
        have hR : Hid (Value.tuple #[.string ⟨#[]⟩, .int .i64 0] = R) := by
          unfold Hid
          rw [← hu.out, List.drop_eq_nil_of_le (by omega), unq_nil]
          rfl
        clear hu
        go_wp2
        go_ret2
        exact ⟨congrArg Ending.returned hR.out, rfl⟩
  · have t0 : ((c0.toNat : Int) == 34) = false := by simp; omega
    have t0' : ((c0.toNat : Int) != 34) = true := by simp; omega
    have hR0 : takeV s = none := by
      rw [hdr0, takeV, if_neg (fun e => h0 (by rw [e]; rfl))]
    rw [hR0]
    unfold quotedV str
    clear hR0 h0 hdr0 hl0
    go_enter Try.func50, Try.ntmps50
    go_wp2
    go_ret2
    exact ⟨rfl, rfl⟩
end Go.Proofs.Ythbdghbfhjimkaa
