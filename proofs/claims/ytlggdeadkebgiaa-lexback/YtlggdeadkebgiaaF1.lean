/- Contracts of the statements' own form, between. -/
import Derived.Test.YtlggdeadkebgiaaG9
namespace Go.Proofs.Ytlggdeadkebgiaa
open Go.RowKit Go.Shelf

theorem esc_take (s : Tx) {j : Nat} (h : j < s.length) : esc (s.take (j + 1)) = esc (s.take j) ++ esc1 (s.getD j 0) := by
  rw [List.take_succ_eq_append_getElem h, esc_app]
  simp [esc, List.getD, List.getElem?_eq_getElem h]
set_option maxHeartbeats 2000000 in
theorem form_any (x : Tk) (w : World) (hs : x.text.length ≤ 35184372088832) : Calls Try.prog 15 #[.agg #[.int .u8 (x.kind : Int), .string ⟨x.text.toArray⟩, .int .i64 (x.at_ : Int)]] w fun e w' => e = .returned (.string ⟨x.form.toArray⟩) ∧ Below w.heap.size w w' := by
  obtain ⟨k, s, p⟩ := x
  unfold Tk.form form
  simp only [] at hs ⊢
  obtain ⟨V, hV⟩ : ∃ V, w.alloc (.cells #[.int .u8 (k : Int), .string ⟨s.toArray⟩, .int .i64 (p : Int)] 31) = V := ⟨_, rfl⟩
  have hnb := new_block w (.cells #[.int .u8 (k : Int), .string ⟨s.toArray⟩, .int .i64 (p : Int)] 31)
  have hbl := alloc_below w (.cells #[.int .u8 (k : Int), .string ⟨s.toArray⟩, .int .i64 (p : Int)] 31)
  rw [hV] at hnb hbl
  have x1 := cell_of hnb 0
  have x2 := cell_of hnb 1
  have x3 := cell_of hnb 2
  simp at x1 x2 x3
  replace hbl := hid hbl
  clear hnb
  by_cases hk : k = 3
  · subst hk
    rw [if_pos rfl]
    replace hV : w.alloc (.cells #[.int .u8 3, .string ⟨s.toArray⟩, .int .i64 (p : Int)] 31) = V := hV
    replace x1 : V.cell? ⟨w.heap.size, 0, none⟩ = some (.int .u8 3) := x1
    go_enter Try.func15, Try.ntmps15
    go_wp2_with (rw [hV])
    go_loop [3, 4] (fun sv iv => ∃ j : Nat, j ≤ s.length ∧ iv = .int .i64 (j : Int) ∧ sv = .string ⟨(34 :: esc (s.take j) : Tx).toArray⟩) (fun _ iv => s.length - (intOf iv).toNat)
    case atStart => exact ⟨0, by omega, rfl, by simp [esc]⟩
    case round =>
      obtain ⟨j, hj, rfl, rfl⟩ := hrel
      have hel := esc_len (s.take j)
      have hle : (34 :: esc (s.take j) : Tx).length ≤ 70368744177665 := by
        rw [List.length_cons]
        have : (s.take j).length ≤ s.length := by simp; omega
        omega
      by_cases hlt : j < s.length
      · have hlt' : (j : Int) < (s.length : Int) := by omega
        have hget := get_at hlt
        have het := esc_take s hlt
        have hone := ext_one hlt
        obtain ⟨c, hcd⟩ : ∃ c, c = s.getD j 0 := ⟨_, rfl⟩
        rw [← hcd] at hget het hone
        have c5 : IntKind.i64.wrap ((j : Int) + 1) = (j : Int) + 1 := by rw [IntKind.wrap_i64]; omega
        obtain ⟨z, hz⟩ : ∃ z : Tx, z = 34 :: esc (s.take j) := ⟨_, rfl⟩
        rw [← hz] at hle ⊢
        have hnext : Hid ((34 :: esc (s.take (j + 1)) : Tx) = z ++ esc1 c) := by unfold Hid; rw [het, hz]; simp
        clear hz hel het hcd
        have k1 : (9223372036854775807 < z.length + 1) = False := eq_false (by omega)
        have k2 : (9223372036854775807 < z.length + 1 + 1) = False := eq_false (by omega)
        have cat2 : (⟨z.toArray⟩ : ByteArray) ++ ⟨#[92]⟩ ++ ⟨([c] : Tx).toArray⟩ = ⟨(z ++ [92, c] : Tx).toArray⟩ := by
          rw [show (⟨#[92]⟩ : ByteArray) = ⟨([92] : Tx).toArray⟩ from rfl, app_str, app_str]
          simp
        have cat1 : (⟨z.toArray⟩ : ByteArray) ++ ⟨([c] : Tx).toArray⟩ = ⟨(z ++ [c] : Tx).toArray⟩ := app_str _ _
        by_cases h34 : c.toNat = 34
        · have t1 : ((c.toNat : Int) == 34) = true := by simp; omega
          have he : esc1 c = [92, c] := by unfold esc1 spc; simp [h34]
          rw [he] at hnext
          clear h34 he
          go_wp2
          exact ⟨⟨j + 1, by omega, by go_num, by rw [hnext.out]⟩, by simp [intOf]; omega⟩
        have t1 : ((c.toNat : Int) == 34) = false := by simp; omega
        by_cases h92 : c.toNat = 92
        · have t2 : ((c.toNat : Int) == 92) = true := by simp; omega
          have he : esc1 c = [92, c] := by unfold esc1 spc; simp [h92]
          rw [he] at hnext
          clear h34 h92 he
          go_wp2
          exact ⟨⟨j + 1, by omega, by go_num, by rw [hnext.out]⟩, by simp [intOf]; omega⟩
        have t2 : ((c.toNat : Int) == 92) = false := by simp; omega
        have he : esc1 c = [c] := by unfold esc1 spc; simp [h34, h92]
        rw [he] at hnext
        clear h34 h92 he
        go_wp2
        exact ⟨⟨j + 1, by omega, by go_num, by rw [hnext.out]⟩, by simp [intOf]; omega⟩
      · have hlt' : ¬ (j : Int) < (s.length : Int) := by omega
        obtain rfl : j = s.length := by omega
        rw [List.take_length] at hle ⊢
        obtain ⟨z, hz⟩ : ∃ z : Tx, z = 34 :: esc s := ⟨_, rfl⟩
        have hq : Hid (quote s = z ++ [34]) := by unfold Hid; rw [hz]; rfl
        rw [← hz] at hle ⊢
        clear hz hel
        have k1 : (9223372036854775807 < z.length + 1) = False := eq_false (by omega)
        have cat1 : (⟨z.toArray⟩ : ByteArray) ++ ⟨#[34]⟩ = ⟨(z ++ [34] : Tx).toArray⟩ := by
          rw [show (⟨#[34]⟩ : ByteArray) = ⟨([34] : Tx).toArray⟩ from rfl, app_str]
        go_wp2
        go_ret
        exact ⟨by rw [hq.out]; rfl, hbl.out⟩
  · have hk' : ((k : Int) != 3) = true := by simp; omega
    rw [if_neg hk]
    clear hk
    go_enter Try.func15, Try.ntmps15
    go_wp2_with (rw [hV])
    go_ret
    exact ⟨rfl, hbl.out⟩
theorem betw_true (c : UInt8) (t : Tx) : betw true (c :: t) = betw (rmk c) t := rfl
theorem betw_35 (t : Tx) : betw false (35 :: t) = betw true t := by
  rw [betw, if_pos rfl]
theorem betw_blank {c : UInt8} (t : Tx) (h : blk c = true) : betw false (c :: t) = betw false t := by
  have h35 : c ≠ 35 := by rintro rfl; exact absurd h (by decide)
  rw [betw, if_neg h35, if_pos h]
theorem betw_no {c : UInt8} (t : Tx) (h : blk c = false) (h35 : c ≠ 35) : betw false (c :: t) = false := by
  rw [betw, if_neg h35, if_neg (by rw [h]; simp)]
set_option maxHeartbeats 2000000 in
theorem lbetween_any (s : Tx) (w : World) (hs : s.length ≤ 9223372036854775806) : Calls Try.prog 14 #[.string ⟨s.toArray⟩] w fun e w' => e = .returned (.bool (betw false s)) ∧ w' = w := by
  go_enter Try.func14, Try.ntmps14
  go_wp2
  go_loop [3, 4] (fun rv iv => ∃ (r : Bool) (i : Nat), i ≤ s.length ∧ rv = .bool r ∧ iv = .int .i64 (i : Int) ∧ Hid (betw false s = betw r (s.drop i))) (fun _ iv => s.length - (intOf iv).toNat)
  case atStart => exact ⟨false, 0, by omega, rfl, rfl, rfl⟩
  case round =>
    obtain ⟨r, i, hi, rfl, rfl, hr⟩ := hrel
    by_cases hlt : i < s.length
    · have hlt' : (i : Int) < (s.length : Int) := by omega
      have hget := get_at hlt
      have hdr := drop_at hlt
      obtain ⟨c, hcd⟩ : ∃ c, c = s.getD i 0 := ⟨_, rfl⟩
      rw [← hcd] at hget hdr
      clear hcd
      cases r with
      | true =>
        have hr2 : Hid (betw false s = betw (rmk c) (s.drop (i + 1))) := by unfold Hid; rw [hr.out, hdr]; rfl
        clear hr hdr
        by_cases h10 : c.toNat = 10
        · have t10 : ((c.toNat : Int) != 10) = false := by simp; omega
          have e : rmk c = false := by unfold rmk; simp [h10]
          rw [e] at hr2
          clear h10 e
          go_wp2
          exact ⟨⟨false, i + 1, by omega, rfl, by go_num, hr2⟩, by simp [intOf]; omega⟩
        · have t10 : ((c.toNat : Int) != 10) = true := by simp; omega
          have e : rmk c = true := by unfold rmk; simp [h10]
          rw [e] at hr2
          clear h10 e
          go_wp2
          exact ⟨⟨true, i + 1, by omega, rfl, by go_num, hr2⟩, by simp [intOf]; omega⟩
      | false =>
        by_cases h35 : c.toNat = 35
        · have hc : c = 35 := UInt8.toNat_inj.1 h35
          have t35 : ((c.toNat : Int) == 35) = true := by simp; omega
          have hr2 : Hid (betw false s = betw true (s.drop (i + 1))) := by unfold Hid; rw [hr.out, hdr, hc, betw_35]
          clear hr hdr hc h35
          go_wp2
          exact ⟨⟨true, i + 1, by omega, rfl, by go_num, hr2⟩, by simp [intOf]; omega⟩
        have t35 : ((c.toNat : Int) == 35) = false := by simp; omega
        by_cases h32 : c.toNat = 32
        · have hc : c = 32 := UInt8.toNat_inj.1 h32
          have t32 : ((c.toNat : Int) != 32) = false := by simp; omega
          have hr2 : Hid (betw false s = betw false (s.drop (i + 1))) := by unfold Hid; rw [hr.out, hdr, betw_blank _ (by rw [hc]; decide)]
          clear hr hdr hc h32
          go_wp2
          exact ⟨⟨false, i + 1, by omega, rfl, by go_num, hr2⟩, by simp [intOf]; omega⟩
        have t32 : ((c.toNat : Int) != 32) = true := by simp; omega
        by_cases h9 : c.toNat = 9
        · have hc : c = 9 := UInt8.toNat_inj.1 h9
          have t9 : ((c.toNat : Int) != 9) = false := by simp; omega
          have hr2 : Hid (betw false s = betw false (s.drop (i + 1))) := by unfold Hid; rw [hr.out, hdr, betw_blank _ (by rw [hc]; decide)]
          clear hr hdr hc h9
          go_wp2
          exact ⟨⟨false, i + 1, by omega, rfl, by go_num, hr2⟩, by simp [intOf]; omega⟩
        have t9 : ((c.toNat : Int) != 9) = true := by simp; omega
        by_cases h10 : c.toNat = 10
        · have hc : c = 10 := UInt8.toNat_inj.1 h10
          have t10 : ((c.toNat : Int) != 10) = false := by simp; omega
          have hr2 : Hid (betw false s = betw false (s.drop (i + 1))) := by unfold Hid; rw [hr.out, hdr, betw_blank _ (by rw [hc]; decide)]
          clear hr hdr hc h10
          go_wp2
          exact ⟨⟨false, i + 1, by omega, rfl, by go_num, hr2⟩, by simp [intOf]; omega⟩
        have t10 : ((c.toNat : Int) != 10) = true := by simp; omega
        by_cases h13 : c.toNat = 13
        · have hc : c = 13 := UInt8.toNat_inj.1 h13
          have t13 : ((c.toNat : Int) != 13) = false := by simp; omega
          have hr2 : Hid (betw false s = betw false (s.drop (i + 1))) := by unfold Hid; rw [hr.out, hdr, betw_blank _ (by rw [hc]; decide)]
          clear hr hdr hc h13
          go_wp2
          exact ⟨⟨false, i + 1, by omega, rfl, by go_num, hr2⟩, by simp [intOf]; omega⟩
        have t13 : ((c.toNat : Int) != 13) = true := by simp; omega
        have e : Hid (false = betw false s) := by
          unfold Hid
          rw [hr.out, hdr, betw_no _ (by unfold blk; simp [h32, h9, h10, h13]) (fun e => h35 (by rw [e]; rfl))]
        clear hr hdr h35 h32 h9 h10 h13
        go_wp2
        go_ret
        exact ⟨ret_bool e.out, rfl⟩
    · have hlt' : ¬ (i : Int) < (s.length : Int) := by omega
      obtain rfl : i = s.length := by omega
      have e : Hid (true = betw false s) := by
        unfold Hid
        rw [hr.out, List.drop_length]
        cases r <;> rfl
      clear hr
      go_wp2
      go_ret
      exact ⟨ret_bool e.out, rfl⟩
end Go.Proofs.Ytlggdeadkebgiaa
