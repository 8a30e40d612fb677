/- The contract of Parse: for any string it returns the number and the error that the plain functions say; nothing in memory turns. -/
import Derived.Test.YtjhodmpgggaknaaGreatDoorZNArith
import Derived.Test.YtjhodmpgggaknaaGreatDoorZShelf
import Derived.WalkMore
namespace Go.Proofs.YtjhodmpgggaknaaGreatDoor.Num
open Go.RowKit

def lenOfText : Value → Nat | .string x => x.data.size | _ => 0
theorem ret_two {k k' : IntKind} {a b c d : Int} (h : a = b) (h' : c = d) : Ending.returned (.tuple #[.int k a, .int k' c]) = .returned (.tuple #[.int k b, .int k' d]) := by rw [h, h']
theorem c46 {c : UInt8} (h : c = 46) : ((c.toNat : Int) == 46) = true := by subst h; rfl
theorem c46' {c : UInt8} (h : ¬ c = 46) : ((c.toNat : Int) == 46) = false := by
  rw [beq_eq_false_iff_ne]
  intro e
  exact h (UInt8.toNat_inj.1 (by have : c.toNat = 46 := by omega
                                 rw [this]; rfl))
theorem trim_le (l : List UInt8) : (Lib.trimPrefix l [45]).length ≤ l.length := by
  unfold Lib.trimPrefix; split <;> simp
theorem text_tail (c : UInt8) (t : List UInt8) : (⟨(c :: t).toArray⟩ : ByteArray).extract 1 (t.length + 1) = ⟨t.toArray⟩ := by
  apply ByteArray.ext
  apply Array.ext'
  simp [ByteArray.data_extract]

set_option maxHeartbeats 1000000 in
theorem parse_any (s : ByteArray) (w : World) (hs : s.size ≤ maxLen) :
    Calls Tryz.prog 116 #[.string s] w fun e w' => e = .returned (.tuple #[.int .i64 (parseN s.data.toList), .int .i64 (parseE s.data.toList)]) ∧ w' = w := by
  have hs' : s.data.toList.length ≤ 9223372036854775807 := by
    have := Lib.size_eq s; unfold maxLen at hs; omega
  have htl := trim_le s.data.toList
  clear hs
  have HB : Hid (scan (Lib.trimPrefix s.data.toList [45]) 0 0 0 false = body s.data.toList) := rfl
  go_enter Tryz.func116, Tryz.ntmps116
  go_wp2
  go_step3
  go_wp2_with (go_at_call 104; refine (Tryz.strings_CutPrefix _ _ _).mono ?_; rintro e w' ⟨rfl, rfl⟩)
  go_step3
  go_wp2
  go_loop [4, 6, 7, 8, 9] (fun t n wh d p => ∃ (l : List UInt8) (nn : Int) (whn dn : Nat) (pt : Bool), t = .string ⟨l.toArray⟩ ∧ n = .int .i64 nn ∧ wh = .int .i64 whn ∧ d = .int .i64 dn ∧ p = .bool pt ∧ 0 ≤ nn ∧ nn ≤ 4611686018427387903 ∧ whn + l.length ≤ s.data.toList.length ∧ dn ≤ 3 ∧ Hid (scan l nn whn dn pt = body s.data.toList))
    (fun t _ _ _ _ => lenOfText t)
  case atStart => exact ⟨_, 0, 0, 0, false, rfl, rfl, rfl, rfl, rfl, by omega, by omega, by simpa using htl, by omega, HB⟩
  case round =>
    obtain ⟨l, nn, whn, dn, pt, rfl, rfl, rfl, rfl, rfl, h0, h1, hw, hd, HR⟩ := hrel
    cases l with
    | nil =>
      have HN := HR.out
      rw [scan_nil] at HN
      by_cases hwh : whn = 0
      · have HP := parse_bad (bad_whole HN hwh)
        have H1 : Hid (0 = parseN s.data.toList) := HP.1.symm
        have H2 : Hid (10 = parseE s.data.toList) := HP.2.symm
        clear HP HN
        subst hwh
        go_wp2
        go_ret2
        exact ⟨ret_two H1.out H2.out, rfl⟩
      · have kw : ((whn : Int) == 0) = false := by rw [beq_eq_false_iff_ne]; omega
        by_cases hp : pt = true ∧ dn = 0
        · obtain ⟨rfl, rfl⟩ := hp
          have HP := parse_bad (bad_point HN rfl)
          have H1 : Hid (0 = parseN s.data.toList) := HP.1.symm
          have H2 : Hid (10 = parseE s.data.toList) := HP.2.symm
          clear HP HN
          go_wp2
          go_ret2
          exact ⟨ret_two H1.out H2.out, rfl⟩
        · have HP := parse_good HN hwh (fun h e => hp ⟨h, e⟩)
          have H1 : Hid (0 = parseE s.data.toList) := HP.1.symm
          have H2 : Hid (parseN s.data.toList = (if Lib.hasPrefix s.data.toList [45] then -padN (3 - dn) nn else padN (3 - dn) nn)) := HP.2
          clear HP HN
          obtain ⟨bb, hbb⟩ : ∃ bb : Bool, bb = (pt && ((dn : Int) == 0)) := ⟨_, rfl⟩
          have hb2 : (pt && ((dn : Int) == 0)) = false := by
            cases pt
            · rfl
            · rw [Bool.true_and, beq_eq_false_iff_ne]; intro e; exact hp ⟨rfl, by omega⟩
          clear hbb bb hp
          cases pt
          all_goals
            go_wp2_with fail
            go_loop [6, 8] (fun n d => ∃ (m : Int) (k : Nat), n = .int .i64 m ∧ d = .int .i64 k ∧ k ≤ 3 ∧ 0 ≤ m ∧ m ≤ 4611686018427387903 ∧ Hid (padN (3 - k) m = padN (3 - dn) nn)) (fun _ d => 3 - (intOf d).toNat)
            case atStart => exact ⟨nn, dn, rfl, rfl, hd, h0, h1, rfl⟩
            case round =>
              obtain ⟨m, k, rfl, rfl, hk, m0, m1, HM⟩ := hrel
              by_cases hk3 : k < 3
              · have g1 := beh_lo (d := 0) m0 (by omega)
                have g2 := beh_hi m 0
                have HN : Hid (padN (3 - (k + 1)) (beh m 0) = padN (3 - dn) nn) := (padN_next k m hk3).symm.trans HM.out
                go_wp2_with (go_at_call 139; refine (beh_any _ _ _ (by omega) (by omega) (by omega) (by omega)).mono ?_; rintro e w' ⟨rfl, rfl⟩)
                go_round
                case rel => exact ⟨_, k + 1, rfl, by go_num, by omega, g1, g2, HN⟩
                case measure => simp [intOf]; omega
              · have hk4 : k = 3 := by omega
                have hm : m = padN (3 - dn) nn := by
                  have e1 := HM.out
                  rw [hk4] at e1
                  exact e1
                have hk5 : ¬ (k : Int) < 3 := by omega
                clear hk4
                have HQ : Hid (m = padN (3 - dn) nn) := hm
                clear hm
                go_wp2
                · have hneg : Lib.hasPrefix s.data.toList [45] = true := by assumption
                  have e1 := H2.out
                  rw [if_pos hneg, ← HQ.out] at e1
                  go_ret2
                  exact ⟨ret_two e1.symm H1.out, rfl⟩
                · have hneg : Lib.hasPrefix s.data.toList [45] = false := by assumption
                  have e1 := H2.out
                  rw [if_neg (by rw [hneg]; decide), ← HQ.out] at e1
                  go_ret2
                  exact ⟨ret_two e1.symm H1.out, rfl⟩
    | cons c t =>
      have hl : c.toNat < 256 := UInt8.toNat_lt c
      have hget : (⟨(c :: t).toArray⟩ : ByteArray)[0]'(by simp [ByteArray.size]) = c := rfl
      have htt := text_tail c t
      rw [List.length_cons] at hw
      by_cases hst : ¬ (c = 46 ∧ pt = false) ∧ (c.toNat < 48 ∨ 57 < c.toNat ∨ dn = 3)
      · have HP := parse_bad (bad_left ((scan_stop t nn whn dn pt hst.1 hst.2).symm.trans HR.out))
        have H1 : Hid (0 = parseN s.data.toList) := HP.1.symm
        have H2 : Hid (10 = parseE s.data.toList) := HP.2.symm
        clear HP
        by_cases hc : c = 46
        · have k1 := c46 hc
          have hlt : (c.toNat : Int) < 48 := by rw [hc]; decide
          cases pt
          · exact absurd ⟨hc, rfl⟩ hst.1
          · clear hc hst
            go_wp2
            go_ret2
            exact ⟨ret_two H1.out H2.out, rfl⟩
        · have k1 := c46' hc
          by_cases hlt : c.toNat < 48
          · clear hc hst
            have hlt' : (c.toNat : Int) < 48 := by omega
            go_wp2
            go_ret2
            exact ⟨ret_two H1.out H2.out, rfl⟩
          · by_cases hgt : 57 < c.toNat
            · clear hc hst
              have hlt' : ¬ (c.toNat : Int) < 48 := by omega
              have hgt' : (57 : Int) < (c.toNat : Int) := by omega
              go_wp2
              go_ret2
              exact ⟨ret_two H1.out H2.out, rfl⟩
            · have hdn : dn = 3 := by omega
              clear hc hst
              subst hdn
              have hlt' : ¬ (c.toNat : Int) < 48 := by omega
              have hgt' : ¬ (57 : Int) < (c.toNat : Int) := by omega
              go_wp2
              go_ret2
              exact ⟨ret_two H1.out H2.out, rfl⟩
      · by_cases hc : c = 46
        · have k1 := c46 hc
          have HC : Hid (c = 46) := hc
          cases pt
          · have HN : Hid (scan t nn whn dn true = body s.data.toList) := (scan_point t nn whn dn HC.out).symm.trans HR.out
            clear hc hst
            go_wp2_with fail
            go_round
            case rel => exact ⟨t, nn, whn, dn, true, by simp, rfl, rfl, rfl, rfl, h0, h1, by omega, hd, HN⟩
            case measure => simp [lenOfText]
          · exact absurd ⟨(fun h => by cases h.2), .inl (by rw [hc]; decide)⟩ hst
        · have k1 := c46' hc
          have hlo : 48 ≤ c.toNat := by
            apply Nat.le_of_not_lt; intro h; exact hst ⟨fun h => hc h.1, .inl h⟩
          have hhi : c.toNat ≤ 57 := by
            apply Nat.le_of_not_lt; intro h; exact hst ⟨fun h => hc h.1, .inr (.inl h)⟩
          have hd3 : dn ≠ 3 := by intro h; exact hst ⟨fun h => hc h.1, .inr (.inr h)⟩
          have g1 := beh_lo (d := (c.toNat : Int) - 48) h0 (by omega)
          have g2 := beh_hi nn ((c.toNat : Int) - 48)
          have hd2 : dn ≤ 2 := by omega
          have kd : ((dn : Int) == 3) = false := by rw [beq_eq_false_iff_ne]; omega
          cases pt
          · have HN : Hid (scan t (beh nn (c.toNat - 48)) (whn + 1) dn false = body s.data.toList) := (scan_whole t nn whn dn hlo hhi hd3).symm.trans HR.out
            clear hc hst hd3
            go_wp2_with (go_at_call 139; refine (beh_any _ _ _ (by omega) (by omega) (by omega) (by omega)).mono ?_; rintro e w' ⟨rfl, rfl⟩)
            go_round
            case rel => exact ⟨t, _, whn + 1, dn, false, by simp, rfl, by go_num, rfl, rfl, g1, g2, by omega, hd, HN⟩
            case measure => simp [lenOfText]
          · have HN : Hid (scan t (beh nn (c.toNat - 48)) whn (dn + 1) true = body s.data.toList) := (scan_dec t nn whn dn hlo hhi hd3).symm.trans HR.out
            clear hc hst hd3
            go_wp2_with (go_at_call 139; refine (beh_any _ _ _ (by omega) (by omega) (by omega) (by omega)).mono ?_; rintro e w' ⟨rfl, rfl⟩)
            go_round
            case rel => exact ⟨t, _, whn, dn + 1, true, by simp, rfl, rfl, by go_num, rfl, g1, g2, by omega, by omega, HN⟩
            case measure => simp [lenOfText]
end Go.Proofs.YtjhodmpgggaknaaGreatDoor.Num
