/- Contracts of strings.Cut at a =, strings.Clone, takeValue. -/
import Derived.Test.YthbdghbfhjimkaaQ1
import Derived.Test.YthbdghbfhjimkaaShelf
namespace Go.Proofs.Ythbdghbfhjimkaa
open Go.RowKit Go.Shelf

theorem index_any (s : Tx) (w : World) : Calls Try.prog 80 #[str s, .string ⟨#[61]⟩] w fun e w' => e = .returned (.int .i64 (Lib.indexByte s 61)) ∧ w' = w := by
  have := Try.stringslite_Index_one ⟨s.toArray⟩ 61 w
  unfold str
  simpa using this
/-- what Cut tells. -/
def cutV (s : Tx) : Option (Tx × Tx) → Value
  | none => .tuple #[str s, str [], .bool false]
  | some (n, r) => .tuple #[str n, str r, .bool true]
set_option maxHeartbeats 1000000 in
theorem icut_any (s : Tx) (w : World) (hs : s.length ≤ 35184372088832) : Calls Try.prog 79 #[str s, .string ⟨#[61]⟩] w fun e w' => e = .returned (cutV s (cutE s)) ∧ ∃ n, w' = w.drewN n := by
  have hi := hid (index_any s)
  rcases cutE_index s with ⟨h1, h2⟩ | ⟨i, h1, h2, h3⟩
  · rw [h1] at hi
    rw [h2]
    unfold cutV str at *
    go_enter Try.func79, Try.ntmps79
    go_wp2_with (go_at_call 80; refine (hi.out _).mono ?_; rintro e w' ⟨rfl, rfl⟩)
    go_ret3
    exact ⟨rfl, 0, rfl⟩
  · rw [h1] at hi
    have e1 : (⟨s.toArray⟩ : ByteArray).extract 0 i = ⟨(s.take i).toArray⟩ := by rw [ext_str, List.drop_zero]
    have e2 : (⟨s.toArray⟩ : ByteArray).extract (i + 1) s.length = ⟨(s.drop (i + 1)).toArray⟩ := by rw [ext_str, List.take_length]
    have c1 : (0 : Int) ≤ (i : Int) := by omega
    have c2 : (i : Int) ≤ (s.length : Int) := by omega
    have c3 : (0 : Int) ≤ (i : Int) + 1 := by omega
    have c4 : (i : Int) + 1 ≤ (s.length : Int) := by omega
    have c5 : IntKind.i64.wrap ((i : Int) + 1) = (i : Int) + 1 := by rw [IntKind.wrap_i64]; omega
    rw [h3]
    unfold cutV str at *
    clear h1 h2 h3
    go_enter Try.func79, Try.ntmps79
    go_wp2_with (go_at_call 80; refine (hi.out _).mono ?_; rintro e w' ⟨rfl, rfl⟩)
    go_quiet (fail)
    go_wp2
    go_ret3
    exact ⟨rfl, _, rfl⟩
set_option maxHeartbeats 1000000 in
theorem cut_any (s : Tx) (w : World) (hs : s.length ≤ 35184372088832) : Calls Try.prog 76 #[str s, .string ⟨#[61]⟩] w fun e w' => e = .returned (cutV s (cutE s)) ∧ ∃ n, w' = w.drewN n := by
  have hi := hid (icut_any s w hs)
  cases hc : cutE s with
  | none =>
    rw [hc] at hi
    unfold cutV str at *
    go_enter Try.func76, Try.ntmps76
    go_wp2_with (go_at_call 79; refine hi.out.mono ?_; rintro e w' ⟨rfl, n, rfl⟩)
    go_ret3
    exact ⟨rfl, n, rfl⟩
  | some p =>
    obtain ⟨x, r⟩ := p
    rw [hc] at hi
    unfold cutV str at *
    go_enter Try.func76, Try.ntmps76
    go_wp2_with (go_at_call 79; refine hi.out.mono ?_; rintro e w' ⟨rfl, n, rfl⟩)
    go_ret3
    exact ⟨rfl, n, rfl⟩
set_option maxHeartbeats 400000 in
theorem clone_any (s : Tx) (w : World) (hs : s.length ≤ 35184372088832) : Calls Try.prog 54 #[str s] w fun e w' => e = .returned (str s) ∧ Below w.heap.size w w' := by
  have hi := hid (Try.stringslite_Clone ⟨s.toArray⟩ w (by rw [size_of]; omega))
  unfold str
  go_enter Try.func54, Try.ntmps54
  go_wp2_with (go_at_call 64; refine hi.out.mono ?_; rintro e w' ⟨rfl, b8⟩)
  go_ret
  exact ⟨rfl, b8⟩
/-- what takeValue tells. -/
def takenV : Option (Tx × Tx) → Value
  | none => .tuple #[str [], str [], .bool false]
  | some (n, r) => .tuple #[str n, str r, .bool true]
theorem drop_at {s : Tx} {i : Nat} (h : i < s.length) : s.drop i = s.getD i 0 :: s.drop (i + 1) := by
  rw [List.drop_eq_getElem_cons h]
  simp [List.getD, List.getElem?_eq_getElem h]
set_option maxHeartbeats 4000000 in
theorem takeValue_any (s : Tx) (w : World) (hs : s.length ≤ 35184372088832) : Calls Try.prog 77 #[str s] w fun e w' => e = .returned (takenV (takeV s)) ∧ Below w.heap.size w w' := by
  have hsp := hid special_any
  have hpre := hid (Try.strings_HasPrefix ⟨s.toArray⟩ ⟨#[34]⟩)
  cases hp : Lib.hasPrefix s [34]
  · have hp' : Lib.hasPrefix (⟨s.toArray⟩ : ByteArray).data.toList (⟨#[34]⟩ : ByteArray).data.toList = false := hp
    rw [hp'] at hpre
    have e : takeV s = none := by
      cases s with
      | nil => rfl
      | cons c t =>
        rw [takeV, if_neg (fun e => by subst e; simp [Lib.hasPrefix] at hp)]
    rw [e]
    unfold takenV str
    clear hp hp' e
    go_enter Try.func77, Try.ntmps77
    go_wp2_with (go_at_call 38; refine (hpre.out _).mono ?_; rintro e w' ⟨rfl, rfl⟩)
    go_ret3
    exact ⟨rfl, Below.refl _ _⟩
  have hp' : Lib.hasPrefix (⟨s.toArray⟩ : ByteArray).data.toList (⟨#[34]⟩ : ByteArray).data.toList = true := hp
  rw [hp'] at hpre
  have hl1 : 1 ≤ s.length := by
    cases s with
    | nil => simp [Lib.hasPrefix] at hp
    | cons c t => simp
  have e : takeV s = unq [] (s.drop 1) := by
    cases s with
    | nil => simp [Lib.hasPrefix] at hp
    | cons c t =>
      rw [takeV, if_pos (by simp [Lib.hasPrefix] at hp; exact hp.symm)]
      rfl
  rw [e]
  clear hp hp' e
  generalize hR : takenV (unq [] (s.drop 1)) = R
  replace hR := hid hR
  unfold str
  go_enter Try.func77, Try.ntmps77
  go_wp2_with (go_at_call 38; refine (hpre.out _).mono ?_; rintro e w' ⟨rfl, hw'⟩; have hw2 := hw'.symm; subst hw2)
  go_loopw [5, 6] (fun bv iv wr => ∃ (i : Nat) (acc : Tx), i ≤ s.length ∧ acc.length ≤ i ∧ iv = .int .i64 (i : Int) ∧ Hid (takenV (unq acc (s.drop i)) = R) ∧ Hid (Own w.heap.size wr bv (ints acc)) ∧ Hid (Below w.heap.size w wr)) (fun _ iv _ => s.length - (intOf iv).toNat)
  case atStart => exact ⟨1, [], hl1, by simp, rfl, hR, own_nil _ _, Below.refl _ _⟩
  case round =>
    obtain ⟨i, acc, hi, hal, rfl, hu, ho, hB⟩ := hrel
    clear hR
    obtain ⟨V, rfl⟩ : ∃ V : World, V = wr := ⟨_, rfl⟩
    by_cases hlt : i < s.length
    · have hlt' : (i : Int) < (s.length : Int) := by omega
      have hget := get_at hlt
      obtain ⟨c, hcd⟩ : ∃ c, c = s.getD i 0 := ⟨_, rfl⟩
      rw [← hcd] at hget
      have hdr := drop_at hlt
      rw [← hcd] at hdr
      have hcn := byte_lt c
      clear hcd
      obtain ⟨av, cv, rfl⟩ := ho.out.slice
      have hal2 : (ints acc).length ≤ 35184372088832 := by rw [ints_len]; omega
      by_cases h34 : c.toNat = 34
      · have t1 : ((c.toNat : Int) == 34) = true := by simp; omega
        have hc : c = 34 := UInt8.toNat_inj.1 h34
        have hR : Hid (Value.tuple #[.string ⟨acc.toArray⟩, .string ⟨(s.drop (i + 1)).toArray⟩, .bool true] = R) := by
          unfold Hid
          rw [← hu.out, hdr, hc, unq_q]
          rfl
        have hcv : ∀ m, (convert 62 9 (.slice av (ints acc).length cv)).run Try.prog (V.drewN m) = .ok (.string ⟨acc.toArray⟩) (V.drewN m) := fun m => by
          have := conv_str (ho.out.isB.below (below_drewN (n := m) (Below.refl _ _)))
          rw [byts_ints] at this
          exact this
        have e2 : (⟨s.toArray⟩ : ByteArray).extract (i + 1) s.length = ⟨(s.drop (i + 1)).toArray⟩ := by rw [ext_str, List.take_length]
        have c3 : (0 : Int) ≤ (i : Int) + 1 := by omega
        have c4 : (i : Int) + 1 ≤ (s.length : Int) := by omega
        have c5 : IntKind.i64.wrap ((i : Int) + 1) = (i : Int) + 1 := by rw [IntKind.wrap_i64]; omega
        clear h34 hu ho hdr hc
        generalize (ints acc).length = n at *
        go_wp2
        go_quiet (fail)
        go_wp2
        go_ret3
        exact ⟨congrArg Ending.returned hR.out, below_drewN hB.out⟩
      have t1 : ((c.toNat : Int) == 34) = false := by simp; omega
      have h34' : c ≠ 34 := by rintro rfl; exact h34 rfl
      by_cases h92 : c.toNat = 92
      · have t2 : ((c.toNat : Int) == 92) = true := by simp; omega
        have hc : c = 92 := UInt8.toNat_inj.1 h92
        have c5 : IntKind.i64.wrap ((i : Int) + 1) = (i : Int) + 1 := by rw [IntKind.wrap_i64]; omega
        by_cases hend : i + 1 = s.length
        · have hR : Hid (Value.tuple #[.string ⟨#[]⟩, .string ⟨#[]⟩, .bool false] = R) := by
            unfold Hid
            rw [← hu.out, hdr, hc, List.drop_eq_nil_of_le (by omega), unq_b0]
            rfl
          have t3 : ((i : Int) + 1 == (s.length : Int)) = true := by simp; omega
          clear hu ho hdr hc h92 h34 h34' hend
          go_wp2
          go_ret3
          exact ⟨congrArg Ending.returned hR.out, hB.out⟩
        · have t3 : ((i : Int) + 1 == (s.length : Int)) = false := by simp; omega
          have hlt2 : i + 1 < s.length := by omega
          have hlt2' : (i : Int) + 1 < (s.length : Int) := by omega
          have hget2 := get_at hlt2
          obtain ⟨d, hdd⟩ : ∃ d, d = s.getD (i + 1) 0 := ⟨_, rfl⟩
          rw [← hdd] at hget2
          have hdr2 := drop_at hlt2
          rw [← hdd] at hdr2
          clear hdd
          cases hsd : spc d
          · have hR : Hid (Value.tuple #[.string ⟨#[]⟩, .string ⟨#[]⟩, .bool false] = R) := by
              unfold Hid
              rw [← hu.out, hdr, hc, hdr2, unq_bad _ _ hsd]
              rfl
            clear hu ho hdr hdr2 hc h92 h34 h34' hend
            go_wp2_with (go_at_call 46; refine (hsp.out _ _).mono ?_; rintro e w' ⟨rfl, hw'⟩; have hw2 := hw'.symm; subst hw2)
            go_ret3
            exact ⟨congrArg Ending.returned hR.out, hB.out⟩
          · obtain ⟨a1, c1, V1, hrun, o1, b1⟩ := push_run ho.out (d.toNat : Int) (byte_lt d) (by omega) hB.out.size
            have hu' : Hid (takenV (unq (acc ++ [d]) (s.drop (i + 1 + 1))) = R) := by
              unfold Hid
              rw [← hu.out, hdr, hc, hdr2, unq_b _ _ hsd]
            have o1' : Hid (Own w.heap.size V1 (.slice a1 ((ints acc).length + 1) c1) (ints (acc ++ [d]))) := by
              unfold Hid
              rw [ints_app]
              exact o1
            have B1 := hid (hB.out.trans b1)
            have hal3 : (acc ++ [d]).length ≤ i + 1 + 1 := by simp; omega
            have c6 : IntKind.i64.wrap ((i : Int) + 1 + 1) = (i : Int) + 1 + 1 := by rw [IntKind.wrap_i64]; omega
            clear hu ho hdr hdr2 hc h92 h34 h34' hend o1 b1
            generalize (ints acc).length = n at *
            go_wp2_with (first | (go_at_call 46; refine (hsp.out _ _).mono ?_; rintro e w' ⟨rfl, hw'⟩; have hw2 := hw'.symm; subst hw2) | (at_builtin; refine wpList_append_run _ rfl _ _ 62 rfl _ _ _ _ rfl rfl hrun ?_))
            exact ⟨⟨i + 1 + 1, acc ++ [d], by omega, hal3, by go_num, hu', o1', B1⟩, by simp [intOf]; omega⟩
      · have t2 : ((c.toNat : Int) == 92) = false := by simp; omega
        have h92' : c ≠ 92 := by rintro rfl; exact h92 rfl
        obtain ⟨a1, c1, V1, hrun, o1, b1⟩ := push_run ho.out (c.toNat : Int) (byte_lt c) (by omega) hB.out.size
        have hu' : Hid (takenV (unq (acc ++ [c]) (s.drop (i + 1))) = R) := by
          unfold Hid
          rw [← hu.out, hdr, unq_c _ _ h34' h92']
        have o1' : Hid (Own w.heap.size V1 (.slice a1 ((ints acc).length + 1) c1) (ints (acc ++ [c]))) := by
          unfold Hid
          rw [ints_app]
          exact o1
        have B1 := hid (hB.out.trans b1)
        have hal3 : (acc ++ [c]).length ≤ i + 1 := by simp; omega
        clear hu ho hdr h92 h92' h34 h34' o1 b1
        generalize (ints acc).length = n at *
        go_wp2_with (at_builtin; refine wpList_append_run _ rfl _ _ 62 rfl _ _ _ _ rfl rfl hrun ?_)
        exact ⟨⟨i + 1, acc ++ [c], by omega, hal3, by go_num, hu', o1', B1⟩, by simp [intOf]; omega⟩
    · have hlt' : ¬ (i : Int) < (s.length : Int) := by omega
      have hR : Hid (Value.tuple #[.string ⟨#[]⟩, .string ⟨#[]⟩, .bool false] = R) := by
        unfold Hid
        rw [← hu.out, List.drop_eq_nil_of_le (by omega), unq_nil]
        rfl
      clear hu
      go_wp2
      go_ret3
      exact ⟨congrArg Ending.returned hR.out, hB.out⟩
end Go.Proofs.Ythbdghbfhjimkaa
