/- Contract of unquote: what stands in the quotes that a text begins with. -/
import Derived.Test.YtlggdeadkebgiaaC2
namespace Go.Proofs.Ytlggdeadkebgiaa
open Go.RowKit Go.Shelf

/-- what unquote tells. -/
def unqV (s : Tx) : Option (Tx × Tx) → Value
  | none => .tuple #[str [], .int .i64 0]
  | some (v, r) => .tuple #[str v, .int .i64 ((s.length - r.length : Nat) : Int)]
set_option maxHeartbeats 4000000 in
theorem unquote_any (s : Tx) (w : World) (h0 : 0 < s.length) (hs : s.length ≤ 35184372088832) : Calls Try.prog 33 #[str s] w fun e w' => e = .returned (unqV s (unqP [] (s.drop 1))) ∧ Below w.heap.size w w' := by
  generalize hR : unqV s (unqP [] (s.drop 1)) = R
  replace hR := hid hR
  unfold str
  go_enter Try.func33, Try.ntmps33
  go_wp2
  go_loopw [4, 5] (fun bv iv wr => ∃ (i : Nat) (acc : Tx), i ≤ s.length ∧ acc.length ≤ i ∧ iv = .int .i64 (i : Int) ∧ Hid (unqV s (unqP acc (s.drop i)) = R) ∧ Hid (Own w.heap.size wr bv (ints acc)) ∧ Hid (Below w.heap.size w wr)) (fun _ iv _ => s.length - (intOf iv).toNat)
  case atStart => exact ⟨1, [], h0, by simp, rfl, hR, own_nil _ _, Below.refl _ _⟩
  case round =>
    obtain ⟨i, acc, hi, hal, rfl, hu, ho, hB⟩ := hrel
    clear hR
    obtain ⟨V, rfl⟩ : ∃ V : World, V = wr := ⟨_, rfl⟩
    by_cases hlt : i < s.length
    · have hlt' : (i : Int) < (s.length : Int) := by omega
      have hget := get_at hlt
      obtain ⟨c, hcd⟩ : ∃ c, c = s.getD i 0 := ⟨_, rfl⟩
      rw [← hcd] at hget
      have hdr := drop_at hlt
      rw [← hcd] at hdr
      have hcn := byte_lt c
      clear hcd
      obtain ⟨av, cv, rfl⟩ := ho.out.slice
      have hal2 : (ints acc).length ≤ 35184372088832 := by rw [ints_len]; omega
      have c5 : IntKind.i64.wrap ((i : Int) + 1) = (i : Int) + 1 := by rw [IntKind.wrap_i64]; omega
      by_cases h34 : c.toNat = 34
      · have t1 : ((c.toNat : Int) == 34) = true := by simp; omega
        have hc : c = 34 := UInt8.toNat_inj.1 h34
        have hR : Hid (Value.tuple #[.string ⟨acc.toArray⟩, .int .i64 ((i : Int) + 1)] = R) := by
          unfold Hid
          rw [← hu.out, hdr, hc, unqP_q]
          have : ((s.length - (s.drop (i + 1)).length : Nat) : Int) = (i : Int) + 1 := by simp; omega
          show _ = Value.tuple #[.string ⟨acc.toArray⟩, .int .i64 ((s.length - (s.drop (i + 1)).length : Nat) : Int)]
          rw [this]
        have hcv : (convert 54 9 (.slice av (ints acc).length cv)).run Try.prog V = .ok (.string ⟨acc.toArray⟩) V := by
          have := conv_str ho.out.isB
          rw [byts_ints] at this
          exact this
        clear h34 hu ho hdr hc
        generalize (ints acc).length = n at *
        go_wp2
        go_ret2
        exact ⟨congrArg Ending.returned hR.out, hB.out⟩
      have t1 : ((c.toNat : Int) == 34) = false := by simp; omega
      have h34' : c ≠ 34 := by rintro rfl; exact h34 rfl
      by_cases h92 : c.toNat = 92
      · have t2 : ((c.toNat : Int) == 92) = true := by simp; omega
        have hc : c = 92 := UInt8.toNat_inj.1 h92
        by_cases hend : i + 1 = s.length
        · have hR : Hid (Value.tuple #[.string ⟨#[]⟩, .int .i64 0] = R) := by
            unfold Hid
            rw [← hu.out, hdr, hc, List.drop_eq_nil_of_le (by omega), unqP_b0]
            rfl
          have t3 : ((i : Int) + 1 == (s.length : Int)) = true := by simp; omega
          clear hu ho hdr hc h92 h34 h34' hend
          go_wp2
          go_ret2
          exact ⟨congrArg Ending.returned hR.out, hB.out⟩
        · have t3 : ((i : Int) + 1 == (s.length : Int)) = false := by simp; omega
          have hlt2 : i + 1 < s.length := by omega
          have hlt2' : (i : Int) + 1 < (s.length : Int) := by omega
          have hget2 := get_at hlt2
          obtain ⟨d, hdd⟩ : ∃ d, d = s.getD (i + 1) 0 := ⟨_, rfl⟩
          rw [← hdd] at hget2
          have hdr2 := drop_at hlt2
          rw [← hdd] at hdr2
          clear hdd
          have c6 : IntKind.i64.wrap ((i : Int) + 1 + 1) = (i : Int) + 1 + 1 := by rw [IntKind.wrap_i64]; omega
          by_cases hd : d.toNat = 34 ∨ d.toNat = 92
          · have hsd : spc d = true := by
              unfold spc
              rcases hd with h | h <;> simp [h]
            obtain ⟨a1, c1, V1, hrun, o1, b1⟩ := push_run ho.out (d.toNat : Int) (byte_lt d) (by omega) hB.out.size
            have hu' : Hid (unqV s (unqP (acc ++ [d]) (s.drop (i + 1 + 1))) = R) := by
              unfold Hid
              rw [← hu.out, hdr, hc, hdr2, unqP_b _ _ hsd]
            have o1' : Hid (Own w.heap.size V1 (.slice a1 ((ints acc).length + 1) c1) (ints (acc ++ [d]))) := by
              unfold Hid
              rw [ints_app]
              exact o1
            have B1 := hid (hB.out.trans b1)
            have hal3 : (acc ++ [d]).length ≤ i + 1 + 1 := by simp; omega
            clear hu ho hdr hdr2 hc h92 h34 h34' hend o1 b1 hsd
            generalize (ints acc).length = n at *
            rcases hd with h | h
            · have u3 : ((d.toNat : Int) != 34) = false := by simp; omega
              clear h
              go_wp2_with (at_builtin; refine wpList_append_run _ rfl _ _ 54 rfl _ _ _ _ rfl rfl hrun ?_)
              exact ⟨⟨i + 1 + 1, acc ++ [d], by omega, hal3, by go_num, hu', o1', B1⟩, by simp [intOf]; omega⟩
            · have u3 : ((d.toNat : Int) != 34) = true := by simp; omega
              have u4 : ((d.toNat : Int) != 92) = false := by simp; omega
              clear h
              go_wp2_with (at_builtin; refine wpList_append_run _ rfl _ _ 54 rfl _ _ _ _ rfl rfl hrun ?_)
              exact ⟨⟨i + 1 + 1, acc ++ [d], by omega, hal3, by go_num, hu', o1', B1⟩, by simp [intOf]; omega⟩
          · have hsd : spc d = false := by
              unfold spc
              simp
              omega
            have u3 : ((d.toNat : Int) != 34) = true := by simp; omega
            have u4 : ((d.toNat : Int) != 92) = true := by simp; omega
            have hR : Hid (Value.tuple #[.string ⟨#[]⟩, .int .i64 0] = R) := by
              unfold Hid
              rw [← hu.out, hdr, hc, hdr2, unqP_bad _ _ hsd]
              rfl
            clear hu ho hdr hdr2 hc h92 h34 h34' hend hsd hd
            go_wp2
            go_ret2
            exact ⟨congrArg Ending.returned hR.out, hB.out⟩
      · have t2 : ((c.toNat : Int) == 92) = false := by simp; omega
        have h92' : c ≠ 92 := by rintro rfl; exact h92 rfl
        by_cases hv : 32 ≤ c.toNat ∧ c.toNat ≤ 126
        · have hv' : vlc c = true := by unfold vlc; simp [hv.1, hv.2]
          have t3 : ¬ (c.toNat : Int) < 32 := by omega
          have t4 : ¬ (126 : Int) < (c.toNat : Int) := by omega
          obtain ⟨a1, c1, V1, hrun, o1, b1⟩ := push_run ho.out (c.toNat : Int) (byte_lt c) (by omega) hB.out.size
          have hu' : Hid (unqV s (unqP (acc ++ [c]) (s.drop (i + 1))) = R) := by
            unfold Hid
            rw [← hu.out, hdr, unqP_c _ _ h34' h92' hv']
          have o1' : Hid (Own w.heap.size V1 (.slice a1 ((ints acc).length + 1) c1) (ints (acc ++ [c]))) := by
            unfold Hid
            rw [ints_app]
            exact o1
          have B1 := hid (hB.out.trans b1)
          have hal3 : (acc ++ [c]).length ≤ i + 1 := by simp; omega
          clear hu ho hdr h92 h92' h34 h34' o1 b1 hv hv'
          generalize (ints acc).length = n at *
          go_wp2_with (at_builtin; refine wpList_append_run _ rfl _ _ 54 rfl _ _ _ _ rfl rfl hrun ?_)
          exact ⟨⟨i + 1, acc ++ [c], by omega, hal3, by go_num, hu', o1', B1⟩, by simp [intOf]; omega⟩
        · have hv' : vlc c = false := by unfold vlc; simp; omega
          have hR : Hid (Value.tuple #[.string ⟨#[]⟩, .int .i64 0] = R) := by
            unfold Hid
            rw [← hu.out, hdr, unqP_v _ _ h34' h92' hv']
            rfl
          clear hu ho hdr h92 h92' h34 h34' hv'
          by_cases h3 : c.toNat < 32
          · have t3 : (c.toNat : Int) < 32 := by omega
            clear hv h3
            go_wp2
            go_ret2
            exact ⟨congrArg Ending.returned hR.out, hB.out⟩
          · have t3 : ¬ (c.toNat : Int) < 32 := by omega
            have t4 : (126 : Int) < (c.toNat : Int) := by omega
            clear hv h3
            go_wp2
            go_ret2
            exact ⟨congrArg Ending.returned hR.out, hB.out⟩
    · have hlt' : ¬ (i : Int) < (s.length : Int) := by omega
      have hR : Hid (Value.tuple #[.string ⟨#[]⟩, .int .i64 0] = R) := by
        unfold Hid
        rw [← hu.out, List.drop_eq_nil_of_le (by omega), unqP_nil]
        rfl
      clear hu
      go_wp2
      go_ret2
      exact ⟨congrArg Ending.returned hR.out, hB.out⟩
end Go.Proofs.Ytlggdeadkebgiaa
