/- For any number the law FixedNoughts of the program returns true and leaves its argument as it was: noughts behind the decimals, up to three of these, change nothing; a fourth one, or a point without any, is refused. The card ties the library's tables that the row lists to the program's text; no other condition. -/
import Derived.Test.YtdiflalllajagabDoorLaid
import Derived.Test.YtdiflalllajagabDoorTexts3
namespace Go.Proofs.YtdiflalllajagabDoor.fixedNoughts
open Go.ChangeShapes Go.WideShapes Go.ChangeAt Go.RowKit
open Go.ChangeMaps (open_string shut_string)
set_option linter.unusedVariables false

theorem getD_lt (l : List UInt8) (k : Nat) (h : k < l.length) : l.getD k 0 = l[k] := by simp [List.getD, h]
theorem scan_decs_app : ∀ (ds t : List UInt8) (a : Int) (wh d : Nat), Dig ds → 0 ≤ a → d + ds.length ≤ 3 → scan (ds ++ t) (satN a) wh d true = scan t (satN (val a ds)) wh (d + ds.length) true
  | [], t, a, wh, d, _, _, _ => rfl
  | c :: ds, t, a, wh, d, hd, ha, h3 => by
    have hc := hd.head
    rw [List.length_cons] at h3
    rw [List.cons_append, scan_dec _ _ _ _ hc.1 hc.2 (by omega), beh_satN ha (by omega) (by omega), scan_decs_app ds t _ wh (d + 1) hd.tail (by omega) (by omega), val_cons, List.length_cons]
    rw [show d + 1 + ds.length = d + (ds.length + 1) by omega]
theorem four_bad {u qs : List UInt8} (hu : Dig u) (hq : Dig qs) (hne : u ≠ []) (h3 : qs.length = 3) : parseE (u ++ 46 :: (qs ++ [48])) = 10 := by
  have hb : body (u ++ 46 :: (qs ++ [48])) = ([48], satN (val (val 0 u) qs), u.length, 3, true) := by
    unfold body
    rw [trim_other (by
      cases u with
      | nil => exact absurd rfl hne
      | cons c t => exact no_minus (t ++ 46 :: (qs ++ [48])) hu.head)]
    have e0 : (0 : Int) = satN 0 := rfl
    have := scan_digits u (46 :: (qs ++ [48])) 0 0 0 hu (by omega) (by omega)
    rw [← e0, scan_point _ _ _ _ rfl, scan_decs_app qs [48] _ _ _ hq (val_nonneg u (by omega) hu) (by omega), h3, scan_stop [] _ _ _ _ (fun h => by cases h.2) (.inr (.inr rfl)), Nat.zero_add] at this
    exact this
  exact (parse_bad (bad_left hb.symm)).2
theorem point_bad {u : List UInt8} (hu : Dig u) (hne : u ≠ []) : parseE (u ++ [46]) = 10 := by
  have hs : Shape (u ++ [46]) u [] true := ⟨hu, Dig.nil, by simp, rfl, fun h => by cases h⟩
  exact (parse_bad (bad_point (body_shape hs hne) rfl)).2
theorem good {u qs : List UInt8} {m : Int} (hu : Dig u) (hq : Dig qs) (hne : u ≠ []) (hq0 : qs ≠ []) (h3 : qs.length ≤ 3) (hv : val 0 (u ++ qs) * 10 ^ (3 - qs.length) = m) (hm : m ≤ 4611686018427387903) :
    parseN (u ++ 46 :: qs) = m ∧ parseE (u ++ 46 :: qs) = 0 := by
  have hs : Shape (u ++ 46 :: qs) u qs true := ⟨hu, hq, h3, rfl, fun h => by cases h⟩
  have := parse_shape hs hne (fun _ => hq0)
  rw [hv, satN_in hm] at this
  exact this
theorem more_val {u qs : List UInt8} {m : Int} (h3 : qs.length < 3) (hv : val 0 (u ++ qs) * 10 ^ (3 - qs.length) = m) : val 0 (u ++ (qs ++ [48])) * 10 ^ (3 - (qs ++ [48]).length) = m := by
  rw [← List.append_assoc, val_append, show val (val 0 (u ++ qs)) [48] = val 0 (u ++ qs) * 10 from by rw [val_cons]; simp [val], List.length_append, Int.mul_assoc, ← hv]
  congr 1
  rw [show 3 - qs.length = (3 - (qs.length + 1)) + 1 by omega, Int.pow_succ, Int.mul_comm]
  rfl

/-- The place of the last point among the first so many bytes, or -1. -/
def lastPt (l : List UInt8) : Nat → Int
  | 0 => -1
  | k + 1 => if l.getD k 0 = 46 then (k : Int) else lastPt l k
theorem lastPt_bd (l : List UInt8) : ∀ k, -1 ≤ lastPt l k ∧ lastPt l k < (k : Int)
  | 0 => by simp [lastPt]
  | k + 1 => by
    have := lastPt_bd l k
    unfold lastPt
    split <;> omega
theorem lastPt_dig {l : List UInt8} (h : Dig l) : ∀ k, k ≤ l.length → lastPt l k = -1
  | 0, _ => rfl
  | k + 1, hk => by
    have hc := h (l.getD k 0) (by rw [getD_lt _ _ (by omega)]; exact List.getElem_mem _)
    unfold lastPt
    rw [if_neg (fun e => by rw [e] at hc; exact absurd hc.1 (by decide)), lastPt_dig h k (by omega)]
theorem lastPt_point {u q : List UInt8} (hq : Dig q) : ∀ k, k ≤ q.length → lastPt (u ++ 46 :: q) (u.length + 1 + k) = (u.length : Int)
  | 0, _ => by
    rw [Nat.add_zero, lastPt, if_pos (by simp [List.getD])]
  | k + 1, hk => by
    have e : (u ++ 46 :: q).getD (u.length + 1 + k) 0 = q.getD k 0 := by
      simp only [List.getD]
      rw [List.getElem?_append_right (by omega), show u.length + 1 + k - u.length = k + 1 by omega, List.getElem?_cons_succ]
    have hc := hq (q.getD k 0) (by rw [getD_lt _ _ (by omega)]; exact List.getElem_mem _)
    rw [← Nat.add_assoc, lastPt, e, if_neg (fun e => by rw [e] at hc; exact absurd hc.1 (by decide)), lastPt_point hq k (by omega)]

theorem parse_app (t q : List UInt8) (n e0 : Int) (w : World) (h : t.length ≤ 60) (hq : q.length ≤ 4) (hn : parseN (t ++ q) = n) (he : parseE (t ++ q) = e0) :
    Calls Tryd.prog 11 #[.string (⟨t.toArray⟩ ++ ⟨q.toArray⟩)] w fun e w' => e = .returned (.tuple #[.int .i64 n, .int .i64 e0]) ∧ w' = w := by
  subst hn; subst he
  rw [bytes_app]
  exact parse_any _ w (by show (t ++ q).toArray.size ≤ _; unfold maxLen; simp; omega)
theorem sat_is {x m : Int} (h : sat x = m) (w : World) : Calls Tryd.prog 12 #[.int .i64 x] w fun e w' => e = .returned (.int .i64 m) ∧ w' = w := by
  subst h; exact sat_any x w

set_option maxHeartbeats 400000 in
theorem walk_neg (w : World) (ht : Tab w) (x : Int) (h : x < 0) :
    Calls Tryd.prog 5 #[.int .i64 x] w fun e w' => e = .returned (.bool true) ∧ Below w.heap.size w w' := by
  go_enter Tryd.func5, Tryd.ntmps5
  go_wp2_with (go_at_call 6; refine (awake_any _ ht).mono ?_; rintro e w1 ⟨rfl, hb⟩)
  go_ret
  exact ⟨rfl, hb⟩

set_option maxHeartbeats 2000000 in
theorem walk_in (w : World) (ht : Tab w) (x m : Int) (hx : 0 ≤ x) (HM : Hid (sat x = m)) (m0 : 0 ≤ m) (m1 : m ≤ 4611686018427387903) (l : List UInt8) (HL : Hid (printL x = l)) (hl : l.length ≤ 25)
    (HOR : Hid ((Dig l ∧ l ≠ [] ∧ val 0 l * 1000 = m) ∨ ∃ u ps, l = u ++ 46 :: ps ∧ Dig u ∧ Dig ps ∧ u ≠ [] ∧ ps ≠ [] ∧ ps.length ≤ 3 ∧ val 0 (u ++ ps) * 10 ^ (3 - ps.length) = m)) :
    Calls Tryd.prog 5 #[.int .i64 x] w fun e w' => e = .returned (.bool true) ∧ Below w.heap.size w w' := by
  have q1 : decide (x < 0) = false := by simp; omega
  go_enter Tryd.func5, Tryd.ntmps5
  go_wp2_with fail
  refine (awake_any _ ht).mono ?_
  rintro e w1 ⟨rfl, hb⟩
  have ht1 := ht.later hb
  go_wp2_with fail
  refine (print_is x l _ ht1 HL.out).mono ?_
  rintro e w2 ⟨rfl, hb2⟩
  go_wp2_with fail
  go_loop [4, 5] (fun p i => ∃ (k : Nat) (q : Int), k ≤ l.length ∧ i = .int .i64 k ∧ p = .int .i64 q ∧ -1 ≤ q ∧ q ≤ 25 ∧ Hid (q = lastPt l k)) (fun _ i => l.length - (intOf i).toNat)
  case atStart => exact ⟨0, -1, Nat.zero_le _, rfl, rfl, by omega, by omega, rfl⟩
  case round =>
    obtain ⟨k, q, hk, rfl, rfl, qlo, qhi, HQ⟩ := hrel
    by_cases hlt : k < l.length
    · have hlt' : (k : Int) < (l.length : Int) := by omega
      go_wp2
      · have ht46 : (((l[k]).toNat : Int) == 46) = true := by assumption
        go_round
        case rel =>
          refine ⟨k + 1, k, by omega, by go_num, rfl, by omega, by omega, ?_⟩
          show (k : Int) = lastPt l (k + 1)
          unfold lastPt
          rw [getD_lt l k hlt, if_pos]
          have e : (l[k]).toNat = 46 := by rw [beq_iff_eq] at ht46; omega
          exact UInt8.toNat_inj.1 e
        case measure => simp [intOf]; omega
      · have ht46 : (((l[k]).toNat : Int) == 46) = false := by assumption
        go_round
        case rel =>
          refine ⟨k + 1, q, by omega, by go_num, rfl, qlo, qhi, ?_⟩
          show q = lastPt l (k + 1)
          unfold lastPt
          rw [getD_lt l k hlt, if_neg]
          · exact HQ.out
          · intro e
            rw [e] at ht46
            exact absurd ht46 (by decide)
        case measure => simp [intOf]; omega
    · have hkn : k = l.length := by omega
      have HQ2 : q = lastPt l l.length := by rw [← hkn]; exact HQ.out
      clear hkn
      rcases HOR.out with ⟨hud, hune, hval⟩ | ⟨u, ps, hlu, hud, hpd, hune, hp0, hp3, hval⟩
      · have hq : q = -1 := by rw [HQ2]; exact lastPt_dig hud _ (Nat.le_refl _)
        clear HQ2
        subst hq
        have HV0 : Hid (val 0 l * 1000 = m) := hval
        clear hval
        have hpb := point_bad hud hune
        have HB : Hid (parseE (l ++ [46]) = 10) := hpb
        have HB2 : Hid (parseN (l ++ [46]) = 0) := (parse_no (by rw [hpb]; decide)).1
        clear hpb
        obtain ⟨u, hu⟩ : ∃ u, u = l := ⟨l, rfl⟩
        subst hu
        have HN : Hid (u ≠ []) := hune
        go_wp2_with fail
        refine (parse_app u [46] 0 10 _ (by omega) (by simp) HB2.out HB.out).mono ?_
        rintro e w3 ⟨rfl, rfl⟩
        go_wp2_with fail
        go_loop [3] (fun v => ∃ (t qs : List UInt8), v = .string ⟨t.toArray⟩ ∧ Hid (t = u ++ 46 :: qs) ∧ Dig qs ∧ Hid (qs ≠ []) ∧ qs.length ≤ 3 ∧ t.length ≤ u.length + 1 + qs.length ∧ u.length + 1 + qs.length ≤ t.length ∧ Hid (val 0 (u ++ qs) * 10 ^ (3 - qs.length) = m)) (fun v => u.length + 4 - lenOfText v)
        case atStart =>
          refine ⟨u ++ [46, 48], [48], ?_, ?_, noughts_dig 1, ?_, by simp, by simp, by simp, ?_⟩
          · rw [show (⟨#[46, 48]⟩ : ByteArray) = ⟨[46, 48].toArray⟩ from rfl, bytes_app]
          · exact rfl
          · show [48] ≠ []
            simp
          · show val 0 (u ++ [48]) * 10 ^ (3 - 1) = m
            rw [val_append, show val (val 0 u) [48] = val 0 u * 10 from by rw [val_cons]; simp [val], ← HV0.out]
            omega
        case round =>
          obtain ⟨t, qs, rfl, HT, hqd, HQ0, hq3, t1, t2, HV⟩ := hrel
          have hg := good hud hqd hune HQ0.out hq3 HV.out m1
          rw [← HT.out] at hg
          have HG1 : Hid (parseN t = m) := hg.1
          have HG2 : Hid (parseE t = 0) := hg.2
          clear hg
          have HU : Hid (Dig u) := hud
          by_cases hlt3 : qs.length < 3
          · have hlt4 : (t.length : Int) < (u.length : Int) + 4 := by omega
            go_wp2_with fail
            refine (parse_is t m 0 _ (by omega) HG1.out HG2.out).mono ?_
            rintro e w3 ⟨rfl, rfl⟩
            go_wp2_with fail
            refine (sat_is HM.out _).mono ?_
            rintro e w3 ⟨rfl, rfl⟩
            go_wp2
            go_round
            case rel =>
              refine ⟨t ++ [48], qs ++ [48], ?_, ?_, hqd.append (noughts_dig 1), ?_, by simp; omega, by simp; omega, by simp; omega, more_val hlt3 HV.out⟩
              · rw [bytes_one 48, bytes_app]
              · show t ++ [48] = _
                rw [HT.out]; simp
              · show qs ++ [48] ≠ []
                simp
            case measure =>
              rw [bytes_one 48, bytes_app]
              simp [lenOfText]; omega
          · have hge : ¬ (t.length : Int) < (u.length : Int) + 4 := by omega
            have hbad : parseE (t ++ [48]) = 10 := by
              rw [HT.out]
              have := four_bad hud hqd hune (by omega)
              simpa using this
            have HB : Hid (parseE (t ++ [48]) = 10) := hbad
            have HB2 : Hid (parseN (t ++ [48]) = 0) := (parse_no (by rw [hbad]; decide)).1
            clear hbad
            go_wp2_with fail
            refine (parse_is t m 0 _ (by omega) HG1.out HG2.out).mono ?_
            rintro e w3 ⟨rfl, rfl⟩
            go_wp2_with fail
            refine (parse_app t [48] 0 10 _ (by omega) (by simp) HB2.out HB.out).mono ?_
            rintro e w3 ⟨rfl, rfl⟩
            go_wp2_with fail
            refine (sat_is HM.out _).mono ?_
            rintro e w3 ⟨rfl, rfl⟩
            go_wp2
            go_ret
            exact ⟨rfl, below_two hb hb2⟩
      · have hq : q = (u.length : Int) := by
          rw [HQ2, hlu]
          have := lastPt_point (u := u) hpd ps.length (Nat.le_refl _)
          rw [← this]
          congr 1
          simp; omega
        clear HQ2
        subst hq
        have HV0 : Hid (val 0 (u ++ ps) * 10 ^ (3 - ps.length) = m) := hval
        have HLU : Hid (l = u ++ 46 :: ps) := hlu
        have HP0 : Hid (ps ≠ []) := hp0
        have hul : u.length ≤ 25 := by rw [hlu] at hl; simp at hl; omega
        clear hval hlu hp0
        go_wp2_with fail
        go_loop [3] (fun v => ∃ (t qs : List UInt8), v = .string ⟨t.toArray⟩ ∧ Hid (t = u ++ 46 :: qs) ∧ Dig qs ∧ Hid (qs ≠ []) ∧ qs.length ≤ 3 ∧ t.length ≤ u.length + 1 + qs.length ∧ u.length + 1 + qs.length ≤ t.length ∧ Hid (val 0 (u ++ qs) * 10 ^ (3 - qs.length) = m)) (fun v => u.length + 4 - lenOfText v)
        case atStart => exact ⟨l, ps, rfl, HLU, hpd, HP0, hp3, by rw [HLU.out]; simp; omega, by rw [HLU.out]; simp; omega, HV0⟩
        case round =>
          obtain ⟨t, qs, rfl, HT, hqd, HQ0, hq3, t1, t2, HV⟩ := hrel
          have hg := good hud hqd hune HQ0.out hq3 HV.out m1
          rw [← HT.out] at hg
          have HG1 : Hid (parseN t = m) := hg.1
          have HG2 : Hid (parseE t = 0) := hg.2
          clear hg
          have HU : Hid (Dig u) := hud
          by_cases hlt3 : qs.length < 3
          · have hlt4 : (t.length : Int) < (u.length : Int) + 4 := by omega
            go_wp2_with fail
            refine (parse_is t m 0 _ (by omega) HG1.out HG2.out).mono ?_
            rintro e w3 ⟨rfl, rfl⟩
            go_wp2_with fail
            refine (sat_is HM.out _).mono ?_
            rintro e w3 ⟨rfl, rfl⟩
            go_wp2
            go_round
            case rel =>
              refine ⟨t ++ [48], qs ++ [48], ?_, ?_, hqd.append (noughts_dig 1), ?_, by simp; omega, by simp; omega, by simp; omega, more_val hlt3 HV.out⟩
              · rw [bytes_one 48, bytes_app]
              · show t ++ [48] = _
                rw [HT.out]; simp
              · show qs ++ [48] ≠ []
                simp
            case measure =>
              rw [bytes_one 48, bytes_app]
              simp [lenOfText]; omega
          · have hge : ¬ (t.length : Int) < (u.length : Int) + 4 := by omega
            have hbad : parseE (t ++ [48]) = 10 := by
              rw [HT.out]
              have := four_bad hud hqd hune (by omega)
              simpa using this
            have HB : Hid (parseE (t ++ [48]) = 10) := hbad
            have HB2 : Hid (parseN (t ++ [48]) = 0) := (parse_no (by rw [hbad]; decide)).1
            clear hbad
            go_wp2_with fail
            refine (parse_is t m 0 _ (by omega) HG1.out HG2.out).mono ?_
            rintro e w3 ⟨rfl, rfl⟩
            go_wp2_with fail
            refine (parse_app t [48] 0 10 _ (by omega) (by simp) HB2.out HB.out).mono ?_
            rintro e w3 ⟨rfl, rfl⟩
            go_wp2_with fail
            refine (sat_is HM.out _).mono ?_
            rintro e w3 ⟨rfl, rfl⟩
            go_wp2
            go_ret
            exact ⟨rfl, below_two hb hb2⟩

theorem walk (w : World) (ht : Tab w) (a0 : Int) (w0 : (Lit.int .i64 a0).wf = true) :
    Calls Tryd.prog 5 #[.int .i64 a0] w fun e w' => e = .returned (.bool true) ∧ Below w.heap.size w w' := by
  by_cases h : a0 < 0
  · exact walk_neg w ht a0 h
  · have b2 := sat_hi a0
    have b1 : 0 ≤ sat a0 := by unfold sat; split <;> (try split) <;> omega
    have hp : printL a0 = digitsOf (sat a0) := by unfold printL; rw [if_neg (by omega)]
    have hl := print_len a0
    obtain ⟨ps, p, ⟨hd, hpd, h3, hshape, h0⟩, hn, hv⟩ := digits_shape b1
    refine walk_in w ht a0 (sat a0) (by omega) rfl b1 b2 (printL a0) rfl hl ?_
    show _ ∨ _
    rw [hp, hshape]
    cases p
    · left
      obtain rfl := h0 rfl
      rw [List.append_nil] at hv
      exact ⟨hd, dec_ne _, hv⟩
    · right
      exact ⟨_, ps, rfl, hd, hpd, dec_ne _, hn rfl, h3, hv⟩

theorem own : ownKnob Tryd.prog.godebug = none := by kernel_rfl
theorem laidOut : laidOutB Tryd.prog = true := by kernel_rfl

set_option maxRecDepth 100000 in
theorem lifted (os : Os) (started : os.Started) (H : Type) (enc : TypeId × Value → H) :
    ReturnsInHanded {} Tryd.checked os 5 .any (fun w args => (Rows.fixedNoughtsSpec.pre enc Tryd.prog Tryd.f5 [] false w args ∧ laidMetH Tryd.prog Rows.fixedNoughtsRow.laid w) ∧ sizedMet enc Tryd.prog Tryd.f5 (OpenSpec.ofChange Rows.fixedNoughtsSpec) false w args)
      (Rows.fixedNoughtsSpec.post enc Tryd.prog Tryd.f5 false true false false) := by
  refine returnsInHanded_of_change_and (C := Tryd.checked) (X := fun w _ => laidMetH Tryd.prog Rows.fixedNoughtsRow.laid w) (fun _ _ _ hh h => h.of_heap hh) own started (by kernel_rfl) Tryd.func5
    (ChangeSpec.witness_shaped (enc := enc) (C := Tryd.checked) (os := os) (X := fun w _ => laidMetH Tryd.prog Rows.fixedNoughtsRow.laid w) false (World.laidAll Tryd.prog os Rows.fixedNoughtsRow.laid) #[.int .i64 0] 8 (World.laidAll_os _ _ _)
      (World.shaped_of_ZipB (by kernel_rfl) (by kernel_rfl)) (by kernel_rfl) (by kernel_rfl) (by kernel_rfl)
      (by rw [MakeChecks.laidMetH_plain _ _ _ (by kernel_rfl)]; exact laidMet_laidAll _ (by kernel_rfl) (by kernel_rfl))) ?_
  intro W base args ds gs before hval0 hW _ _ hL _
  have hval : ∀ (j : Nat) t v, Tryd.f5.params[j]? = some t → args[j]? = some v → Value.okWide Tryd.prog W .any base t v := hval0
  have hW' := hW
  obtain ⟨p, q, hA0, hV, rfl, hfz, hnd⟩ := hW
  have hA : DataW.TrodAll enc Tryd.prog W 0 (fun _ => true) true Tryd.f5.params.toList args.toList ds p := hA0
  rw [Tryd.params5] at hA hval
  obtain ⟨v0, vs0, d0, ds0, p0, q0, hargs, rfl, rfl, h0, r0⟩ := trodAll_cons hA
  obtain ⟨rfl, rfl, rfl⟩ := trodAll_nil r0
  obtain rfl : args = #[v0] := by cases args; simp_all
  obtain ⟨rfl, rfl⟩ := trodVars_none hV
  obtain ⟨a0, rfl, rfl, rfl, w0⟩ := open_int Tryd.underlying2 (hval 0 2 v0 rfl rfl) h0
  clear hA0 hval0
  refine (walk W (tab_of (by rw [MakeChecks.laidMetH_plain _ _ _ (by kernel_rfl)]) hL) a0 w0).mono fun e W' ⟨he, bel⟩ => ?_
  subst he
  exact ⟨_, rfl, _, _, _, [], _, [], hW', trodAll_mk1 (shut_bool Tryd.underlying4 _), (trodAll_cons_mk (shut_int Tryd.underlying2 w0) trodAll_mk0), rfl, bel.frame _, fun h => by cases h⟩

theorem over : Rows.FixedNoughtsSaid :=
  OpenClaim.holds_of_wide 5 Tryd.f5 rfl rfl rfl rfl rfl rfl rfl ⟨rfl, rfl, rfl, rfl, rfl⟩ rfl rfl rfl rfl rfl (by kernel_rfl) Tryd.func5 (by kernel_rfl)
    (of_decide_eq_true (by kernel_rfl)) (by unfold Func.isWrapper; first | (rw [if_pos (by decide +kernel)]; kernel_rfl) | (rw [if_neg (by decide +kernel)]; exact ⟨rfl, rfl⟩))
    (fun os started H enc _ => lifted os started H enc)

theorem proved : Rows.FixedNoughtsCardSaid :=
  Claim7.holds_tied_plain_at .later [] [.data, .data, .data, .data, .pinned] true (true, "8065065f0a1bd10e60757bd21c9227da07d98b50f16e10f43d69137a89b9d475") false
    over (fun _ h => by cases h) (by kernel_rfl) (fun _ h => by cases h) fixedNoughts_row_tie rfl ⟨rfl, rfl⟩ (by kernel_rfl) rfl
    (fun f fn hf hfn => by
      obtain rfl : f = 5 := Option.some.inj ((show Tryd.prog.funcNamed "tocsin/tocsinlaw01.FixedNoughts" = some 5 by kernel_rfl).symm.trans hf) |>.symm
      obtain rfl : fn = Tryd.f5 := (Option.some.inj (Tryd.func5.symm.trans hfn)).symm
      exact ⟨by kernel_rfl, fun j t ht => by
        rw [Tryd.params5] at ht
        have hm : t ∈ [2] := by simpa using Array.mem_of_getElem? ht
        have hall : ([2].all fun u => !Tryd.prog.wantsStandIn u) = true := by kernel_rfl
        exact (show Tryd.prog.wantsStandIn t = false by simpa using List.all_eq_true.1 hall t hm)⟩)
    (by kernel_rfl)
#print axioms proved

end Go.Proofs.YtdiflalllajagabDoor.fixedNoughts
