/- For any two numbers and any count of noughts the law FixedRises of the program returns true and leaves its arguments as they were: of two texts of decimals the one that says more is read as more. The card ties the library's tables that the row lists to the program's text; no other condition. -/
import Derived.Test.YtdiflalllajagaaDoorLaid
import Derived.Test.YtdiflalllajagaaDoorTexts3
namespace Go.Proofs.YtdiflalllajagaaDoor.fixedRises
open Go.ChangeShapes Go.WideShapes Go.ChangeAt Go.RowKit
open Go.ChangeMaps (open_string shut_string)
set_option linter.unusedVariables false

theorem noughts_shape {l ds ps : List UInt8} {p : Bool} (k : Nat) (h : Shape l ds ps p) : Shape (List.replicate k 48 ++ l) (List.replicate k 48 ++ ds) ps p := by
  obtain ⟨hd, hp, h3, rfl, h0⟩ := h
  refine ⟨(noughts_dig k).append hd, hp, h3, ?_, h0⟩
  cases p
  · rfl
  · simp
theorem noughts_val (k : Nat) (l : List UInt8) : val 0 (List.replicate k 48 ++ l) = val 0 l := by
  rw [val_append, val_noughts, Int.zero_mul]
theorem read_pos {m : Int} (k : Nat) (h0 : 0 ≤ m) (h1 : m ≤ 4611686018427387903) : parseN (List.replicate k 48 ++ digitsOf m) = m ∧ parseE (List.replicate k 48 ++ digitsOf m) = 0 := by
  obtain ⟨ps, p, h, hn, hv⟩ := digits_shape h0
  have := parse_shape (noughts_shape k h) (by intro e; exact dec_ne _ (List.append_eq_nil_iff.1 e).2) hn
  rw [List.append_assoc, noughts_val, hv, satN_in h1] at this
  exact this
theorem read_neg {m : Int} (k : Nat) (h0 : 0 ≤ m) (h1 : m ≤ 4611686018427387903) : parseN (45 :: (List.replicate k 48 ++ digitsOf m)) = -m ∧ parseE (45 :: (List.replicate k 48 ++ digitsOf m)) = 0 := by
  obtain ⟨ps, p, h, hn, hv⟩ := digits_shape h0
  have := parse_minus (noughts_shape k h) (by intro e; exact dec_ne _ (List.append_eq_nil_iff.1 e).2) hn
  rw [List.append_assoc, noughts_val, hv, satN_in h1] at this
  exact this
theorem print_nonneg {m : Int} (h0 : 0 ≤ m) (h1 : m ≤ 4611686018427387903) : printL m = digitsOf m := by
  unfold printL; rw [← sat_in (by omega) h1, if_neg (by omega)]

theorem parse_cat (n : Nat) (l la : List UInt8) (m e0 : Int) (w : World) (h1 : l.length ≤ 100) (h2 : la.length ≤ 25) (hl : l = List.replicate n 48) (hn : parseN (List.replicate n 48 ++ la) = m) (he : parseE (List.replicate n 48 ++ la) = e0) :
    Calls Tryd.prog 8 #[.string (⟨l.toArray⟩ ++ ⟨la.toArray⟩)] w fun e w' => e = .returned (.tuple #[.int .i64 m, .int .i64 e0]) ∧ w' = w := by
  subst hl; subst hn; subst he
  rw [bytes_app]
  exact parse_any _ w (by show (List.replicate n 48 ++ la).toArray.size ≤ _; unfold maxLen; simp at *; omega)
theorem parse_cat3 (n : Nat) (l la : List UInt8) (m e0 : Int) (w : World) (h1 : l.length ≤ 100) (h2 : la.length ≤ 25) (hl : l = List.replicate n 48) (hn : parseN (45 :: (List.replicate n 48 ++ la)) = m) (he : parseE (45 :: (List.replicate n 48 ++ la)) = e0) :
    Calls Tryd.prog 8 #[.string (⟨#[45]⟩ ++ ⟨l.toArray⟩ ++ ⟨la.toArray⟩)] w fun e w' => e = .returned (.tuple #[.int .i64 m, .int .i64 e0]) ∧ w' = w := by
  subst hl; subst hn; subst he
  rw [bytes_one, bytes_app, bytes_app]
  exact parse_any _ w (by show ([45] ++ List.replicate n 48 ++ la).toArray.size ≤ _; unfold maxLen; simp at *; omega)

set_option maxHeartbeats 400000 in
theorem walk_out (w : World) (ht : Tab w) (a b n : Int) (h : a < 0 ∨ b < 0 ∨ 1000000000000000 < a ∨ 1000000000000000 < b ∨ n < 0 ∨ 100 < n) :
    Calls Tryd.prog 6 #[.int .i64 a, .int .i64 b, .int .i64 n] w fun e w' => e = .returned (.bool true) ∧ Below w.heap.size w w' := by
  have HH : Hid (a < 0 ∨ b < 0 ∨ 1000000000000000 < a ∨ 1000000000000000 < b ∨ n < 0 ∨ 100 < n) := h
  clear h
  by_cases h1 : a < 0
  · go_enter Tryd.func6, Tryd.ntmps6
    go_wp2_with (go_at_call 12; refine (awake_any _ ht).mono ?_; rintro e w1 ⟨rfl, hb⟩)
    go_ret
    exact ⟨rfl, hb⟩
  · by_cases h2 : b < 0
    · go_enter Tryd.func6, Tryd.ntmps6
      go_wp2_with (go_at_call 12; refine (awake_any _ ht).mono ?_; rintro e w1 ⟨rfl, hb⟩)
      go_ret
      exact ⟨rfl, hb⟩
    · by_cases h3 : 1000000000000000 < a
      · go_enter Tryd.func6, Tryd.ntmps6
        go_wp2_with (go_at_call 12; refine (awake_any _ ht).mono ?_; rintro e w1 ⟨rfl, hb⟩)
        go_ret
        exact ⟨rfl, hb⟩
      · by_cases h4 : 1000000000000000 < b
        · go_enter Tryd.func6, Tryd.ntmps6
          go_wp2_with (go_at_call 12; refine (awake_any _ ht).mono ?_; rintro e w1 ⟨rfl, hb⟩)
          go_ret
          exact ⟨rfl, hb⟩
        · by_cases h5 : n < 0
          · go_enter Tryd.func6, Tryd.ntmps6
            go_wp2_with (go_at_call 12; refine (awake_any _ ht).mono ?_; rintro e w1 ⟨rfl, hb⟩)
            go_ret
            exact ⟨rfl, hb⟩
          · have h6 : 100 < n := by have := HH.out; omega
            go_enter Tryd.func6, Tryd.ntmps6
            go_wp2_with (go_at_call 12; refine (awake_any _ ht).mono ?_; rintro e w1 ⟨rfl, hb⟩)
            go_ret
            exact ⟨rfl, hb⟩

set_option maxHeartbeats 1000000 in
theorem walk_in (w : World) (ht : Tab w) (a b : Int) (n : Nat) (a0 : 0 ≤ a) (a1 : a ≤ 1000000000000000) (b0 : 0 ≤ b) (b1 : b ≤ 1000000000000000) (hn : n ≤ 100)
    (la lb : List UInt8) (HA : Hid (printL a = la)) (HB : Hid (printL b = lb)) (ka : la.length ≤ 25) (kb : lb.length ≤ 25)
    (HAN : Hid (parseN (List.replicate n 48 ++ la) = a)) (HAE : Hid (parseE (List.replicate n 48 ++ la) = 0)) (HBN : Hid (parseN (45 :: (List.replicate n 48 ++ lb)) = -b)) (HBE : Hid (parseE (45 :: (List.replicate n 48 ++ lb)) = 0)) :
    Calls Tryd.prog 6 #[.int .i64 a, .int .i64 b, .int .i64 (n : Int)] w fun e w' => e = .returned (.bool true) ∧ Below w.heap.size w w' := by
  have q1 : decide (a < 0) = false := by simp; omega
  have q2 : decide (b < 0) = false := by simp; omega
  have q3 : decide (1000000000000000 < a) = false := by simp; omega
  have q4 : decide (1000000000000000 < b) = false := by simp; omega
  have q5 : decide ((n : Int) < 0) = false := by simp
  have q6 : decide (100 < (n : Int)) = false := by simp; omega
  go_enter Tryd.func6, Tryd.ntmps6
  go_wp2_with (first | (go_at_call 12; refine (awake_any _ ht).mono ?_; rintro e w1 ⟨rfl, hb⟩) | fail)
  have ht1 := ht.later hb
  go_loop [7, 8] (fun s i => ∃ (k : Nat) (l : List UInt8), k ≤ n ∧ i = .int .i64 k ∧ s = .string ⟨l.toArray⟩ ∧ l.length = k ∧ Hid (l = List.replicate k 48)) (fun _ i => n - (intOf i).toNat)
  case atStart => exact ⟨0, [], Nat.zero_le _, rfl, rfl, rfl, rfl⟩
  case round =>
    obtain ⟨k, l, hk, rfl, rfl, hll, HL⟩ := hrel
    by_cases hlt : k < n
    · have hlt' : (k : Int) < (n : Int) := by omega
      have hl2 : l.length ≤ 100 := by omega
      clear hll
      go_wp2
      go_round
      case rel =>
        refine ⟨k + 1, l ++ [48], by omega, by go_num, ?_, ?_, ?_⟩
        · rw [bytes_one 48, bytes_app]
        · rw [HL.out]; simp
        · show l ++ [48] = _
          rw [HL.out, List.replicate_succ']
      case measure => simp [intOf]; omega
    · have hkn : k = n := by omega
      have hl2 : l.length ≤ 100 := by omega
      have HK : Hid (l = List.replicate n 48) := by rw [← hkn]; exact HL
      clear hll hkn
      go_wp2_with fail
      refine (print_is a la _ ht1 HA.out).mono ?_
      rintro e w2 ⟨rfl, hb2⟩
      have ht2 := ht1.later hb2
      go_wp2_with fail
      refine (parse_cat n l la a 0 _ hl2 ka HK.out HAN.out HAE.out).mono ?_
      rintro e w3 ⟨rfl, rfl⟩
      go_wp2_with fail
      refine (print_is b lb _ ht2 HB.out).mono ?_
      rintro e w3 ⟨rfl, hb3⟩
      go_wp2_with fail
      refine (parse_cat3 n l lb (-b) 0 _ hl2 kb HK.out HBN.out HBE.out).mono ?_
      rintro e w4 ⟨rfl, rfl⟩
      by_cases hab : a < b
      · have q7 : decide (a < b) = true := by simp; omega
        go_wp2
        go_ret
        exact ⟨rfl, below_two hb (below_two hb2 hb3)⟩
      · have q7 : decide (a < b) = false := by simp; omega
        go_wp2
        go_ret
        exact ⟨rfl, below_two hb (below_two hb2 hb3)⟩

theorem walk (w : World) (ht : Tab w) (a0 : Int) (w0 : (Lit.int .i64 a0).wf = true) (a1 : Int) (w1 : (Lit.int .i64 a1).wf = true) (a2 : Int) (w2 : (Lit.int .i64 a2).wf = true) :
    Calls Tryd.prog 6 #[.int .i64 a0, .int .i64 a1, .int .i64 a2] w fun e w' => e = .returned (.bool true) ∧ Below w.heap.size w w' := by
  by_cases h : a0 < 0 ∨ a1 < 0 ∨ 1000000000000000 < a0 ∨ 1000000000000000 < a1 ∨ a2 < 0 ∨ 100 < a2
  · exact walk_out w ht a0 a1 a2 h
  · obtain ⟨n, rfl⟩ := Int.eq_ofNat_of_zero_le (show 0 ≤ a2 by omega)
    have ra := read_pos (m := a0) n (by omega) (by omega)
    have rb := read_neg (m := a1) n (by omega) (by omega)
    have pa := print_nonneg (m := a0) (by omega) (by omega)
    have pb := print_nonneg (m := a1) (by omega) (by omega)
    have ka := print_len a0
    have kb := print_len a1
    rw [pa] at ka
    rw [pb] at kb
    exact walk_in w ht a0 a1 n (by omega) (by omega) (by omega) (by omega) (by omega) (digitsOf a0) (digitsOf a1) pa pb ka kb ra.1 ra.2 rb.1 rb.2

theorem own : ownKnob Tryd.prog.godebug = none := by kernel_rfl
theorem laidOut : laidOutB Tryd.prog = true := by kernel_rfl

set_option maxRecDepth 100000 in
theorem lifted (os : Os) (started : os.Started) (H : Type) (enc : TypeId × Value → H) :
    ReturnsInHanded {} Tryd.checked os 6 .any (fun w args => (Rows.fixedRisesSpec.pre enc Tryd.prog Tryd.f6 [] false w args ∧ laidMetH Tryd.prog Rows.fixedRisesRow.laid w) ∧ sizedMet enc Tryd.prog Tryd.f6 (OpenSpec.ofChange Rows.fixedRisesSpec) false w args)
      (Rows.fixedRisesSpec.post enc Tryd.prog Tryd.f6 false true false false) := by
  refine returnsInHanded_of_change_and (C := Tryd.checked) (X := fun w _ => laidMetH Tryd.prog Rows.fixedRisesRow.laid w) (fun _ _ _ hh h => h.of_heap hh) own started (by kernel_rfl) Tryd.func6
    (ChangeSpec.witness_shaped (enc := enc) (C := Tryd.checked) (os := os) (X := fun w _ => laidMetH Tryd.prog Rows.fixedRisesRow.laid w) false (World.laidAll Tryd.prog os Rows.fixedRisesRow.laid) #[.int .i64 0, .int .i64 0, .int .i64 0] 8 (World.laidAll_os _ _ _)
      (World.shaped_of_ZipB (by kernel_rfl) (by kernel_rfl)) (by kernel_rfl) (by kernel_rfl) (by kernel_rfl)
      (by rw [MakeChecks.laidMetH_plain _ _ _ (by kernel_rfl)]; exact laidMet_laidAll _ (by kernel_rfl) (by kernel_rfl))) ?_
  intro W base args ds gs before hval0 hW _ _ hL _
  have hval : ∀ (j : Nat) t v, Tryd.f6.params[j]? = some t → args[j]? = some v → Value.okWide Tryd.prog W .any base t v := hval0
  have hW' := hW
  obtain ⟨p, q, hA0, hV, rfl, hfz, hnd⟩ := hW
  have hA : DataW.TrodAll enc Tryd.prog W 0 (fun _ => true) true Tryd.f6.params.toList args.toList ds p := hA0
  rw [Tryd.params6] at hA hval
  obtain ⟨v0, vs0, d0, ds0, p0, q0, hargs, rfl, rfl, h0, r0⟩ := trodAll_cons hA
  obtain ⟨v1, vs1, d1, ds1, p1, q1, rfl, rfl, rfl, h1, r1⟩ := trodAll_cons r0
  obtain ⟨v2, vs2, d2, ds2, p2, q2, rfl, rfl, rfl, h2, r2⟩ := trodAll_cons r1
  obtain ⟨rfl, rfl, rfl⟩ := trodAll_nil r2
  obtain rfl : args = #[v0, v1, v2] := by cases args; simp_all
  obtain ⟨rfl, rfl⟩ := trodVars_none hV
  obtain ⟨a0, rfl, rfl, rfl, w0⟩ := open_int Tryd.underlying2 (hval 0 2 v0 rfl rfl) h0
  obtain ⟨a1, rfl, rfl, rfl, w1⟩ := open_int Tryd.underlying2 (hval 1 2 v1 rfl rfl) h1
  obtain ⟨a2, rfl, rfl, rfl, w2⟩ := open_int Tryd.underlying3 (hval 2 3 v2 rfl rfl) h2
  clear hA0 hval0
  refine (walk W (tab_of (by rw [MakeChecks.laidMetH_plain _ _ _ (by kernel_rfl)]) hL) a0 w0 a1 w1 a2 w2).mono fun e W' ⟨he, bel⟩ => ?_
  subst he
  exact ⟨_, rfl, _, _, _, [], _, [], hW', trodAll_mk1 (shut_bool Tryd.underlying4 _), (trodAll_cons_mk (shut_int Tryd.underlying2 w0) (trodAll_cons_mk (shut_int Tryd.underlying2 w1) (trodAll_cons_mk (shut_int Tryd.underlying3 w2) trodAll_mk0))), rfl, bel.frame _, fun h => by cases h⟩

theorem over : Rows.FixedRisesSaid :=
  OpenClaim.holds_of_wide 6 Tryd.f6 rfl rfl rfl rfl rfl rfl rfl ⟨rfl, rfl, rfl, rfl, rfl⟩ rfl rfl rfl rfl rfl (by kernel_rfl) Tryd.func6 (by kernel_rfl)
    (of_decide_eq_true (by kernel_rfl)) (by unfold Func.isWrapper; first | (rw [if_pos (by decide +kernel)]; kernel_rfl) | (rw [if_neg (by decide +kernel)]; exact ⟨rfl, rfl⟩))
    (fun os started H enc _ => lifted os started H enc)

theorem proved : Rows.FixedRisesCardSaid :=
  Claim7.holds_tied_plain_at .later [] [.data, .data, .data, .data, .pinned] true (true, "4f1487c7d62dcca48653913380754becc4fcc628109bfa5974b8ef6ce13fab6a") false
    over (fun _ h => by cases h) (by kernel_rfl) (fun _ h => by cases h) fixedRises_row_tie rfl ⟨rfl, rfl⟩ (by kernel_rfl) rfl
    (fun f fn hf hfn => by
      obtain rfl : f = 6 := Option.some.inj ((show Tryd.prog.funcNamed "tocsin/tocsinlaw01.FixedRises" = some 6 by kernel_rfl).symm.trans hf) |>.symm
      obtain rfl : fn = Tryd.f6 := (Option.some.inj (Tryd.func6.symm.trans hfn)).symm
      exact ⟨by kernel_rfl, fun j t ht => by
        rw [Tryd.params6] at ht
        have hm : t ∈ [2, 2, 3] := by simpa using Array.mem_of_getElem? ht
        have hall : ([2, 2, 3].all fun u => !Tryd.prog.wantsStandIn u) = true := by kernel_rfl
        exact (show Tryd.prog.wantsStandIn t = false by simpa using List.all_eq_true.1 hall t hm)⟩)
    (by kernel_rfl)
#print axioms proved

end Go.Proofs.YtdiflalllajagaaDoor.fixedRises
