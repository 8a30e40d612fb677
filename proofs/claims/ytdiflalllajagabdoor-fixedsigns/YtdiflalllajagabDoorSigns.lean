/- For any number the law FixedSigns of the program returns true and leaves its argument as it was: a number's text with a minus ahead is that of the number taken from 0, and is read so. The card ties the library's tables that the row lists to the program's text; no other condition. -/
import Derived.Test.YtdiflalllajagabDoorLaid
import Derived.Test.YtdiflalllajagabDoorTexts2
namespace Go.Proofs.YtdiflalllajagabDoor.fixedSigns
open Go.ChangeShapes Go.WideShapes Go.ChangeAt Go.RowKit
open Go.ChangeMaps (open_string shut_string)
set_option linter.unusedVariables false

theorem ret_bool {a b : Bool} (h : a = b) : Ending.returned (.bool a) = .returned (.bool b) := by rw [h]
theorem sub_is {a b m : Int} (h : sat (sat a - sat b) = m) (w : World) : Calls Tryd.prog 10 #[.int .i64 a, .int .i64 b] w fun e w' => e = .returned (.int .i64 m) ∧ w' = w := by
  subst h; exact sub_any a b w
theorem sub0 (x : Int) : sat (sat 0 - sat x) = -sat x := by
  have h0 : sat 0 = 0 := by decide
  rw [h0, Int.zero_sub, ← sat_neg, sat_sat, sat_neg]
theorem print0 : printL 0 = [48] := by
  have h0 : sat 0 = 0 := by decide
  unfold printL
  rw [h0, if_neg (by decide)]
  unfold digitsOf
  rw [if_neg (by decide), show ((0 : Int) / 1000).toNat = 0 by decide, dec0]
  rfl
theorem sat_pos {x : Int} (h : 0 < x) : 0 < sat x := by unfold sat; split <;> (try split) <;> omega
theorem sat_negative {x : Int} (h : x < 0) : sat x < 0 := by unfold sat; split <;> (try split) <;> omega
theorem print_pos {x : Int} (h : 0 < x) : printL x = digitsOf (sat x) ∧ printL (-sat x) = 45 :: digitsOf (sat x) := by
  have h1 := sat_pos h
  constructor
  · unfold printL; rw [if_neg (by omega)]
  · unfold printL; rw [sat_neg, sat_sat, if_pos (by omega), Int.neg_neg]
theorem print_neg {x : Int} (h : x < 0) : printL x = 45 :: digitsOf (-sat x) ∧ printL (-sat x) = digitsOf (-sat x) := by
  have h1 := sat_negative h
  constructor
  · unfold printL; rw [if_pos h1]
  · unfold printL; rw [sat_neg, sat_sat, if_neg (by omega)]

set_option maxHeartbeats 400000 in
theorem walk_zero (w : World) (ht : Tab w) :
    Calls Tryd.prog 4 #[.int .i64 0] w fun e w' => e = .returned (.bool true) ∧ Below w.heap.size w w' := by
  go_enter Tryd.func4, Tryd.ntmps4
  go_wp2_with fail
  refine (awake_any _ ht).mono ?_
  rintro e w1 ⟨rfl, hb⟩
  have ht1 := ht.later hb
  go_wp2_with fail
  refine (print_is 0 [48] _ ht1 print0).mono ?_
  rintro e w2 ⟨rfl, hb2⟩
  have ht2 := ht1.later hb2
  go_wp2_with fail
  refine (sub_is (show sat (sat 0 - sat 0) = 0 by decide) _).mono ?_
  rintro e w3 ⟨rfl, rfl⟩
  go_wp2_with fail
  refine (print_is 0 [48] _ ht2 print0).mono ?_
  rintro e w3 ⟨rfl, hb3⟩
  go_wp2
  go_ret
  exact ⟨rfl, below_two hb (below_two hb2 hb3)⟩

set_option maxHeartbeats 400000 in
theorem walk_pos (w : World) (ht : Tab w) (x : Int) (h : 0 < x) (l : List UInt8) (HL : Hid (printL x = l)) (HN : Hid (printL (-sat x) = 45 :: l)) (hlen : l.length ≤ 24) :
    Calls Tryd.prog 4 #[.int .i64 x] w fun e w' => e = .returned (.bool true) ∧ Below w.heap.size w w' := by
  have k0 : (x == 0) = false := by rw [beq_eq_false_iff_ne]; omega
  go_enter Tryd.func4, Tryd.ntmps4
  go_wp2_with fail
  refine (awake_any _ ht).mono ?_
  rintro e w1 ⟨rfl, hb⟩
  have ht1 := ht.later hb
  go_wp2_with fail
  refine (print_is x l _ ht1 HL.out).mono ?_
  rintro e w2 ⟨rfl, hb2⟩
  have ht2 := ht1.later hb2
  go_wp2_with fail
  refine (sub_is (sub0 x) _).mono ?_
  rintro e w3 ⟨rfl, rfl⟩
  go_wp2_with fail
  refine (print_is (-sat x) (45 :: l) _ ht2 HN.out).mono ?_
  rintro e w3 ⟨rfl, hb3⟩
  go_wp2
  go_ret
  exact ⟨ret_bool (by rw [bytes_one 45, bytes_app]; simp), below_two hb (below_two hb2 hb3)⟩

set_option maxHeartbeats 400000 in
theorem walk_neg (w : World) (ht : Tab w) (x : Int) (h : x < 0) (l : List UInt8) (HL : Hid (printL x = 45 :: l)) (HN : Hid (printL (-sat x) = l)) (HP : Hid (parseN l = -sat x)) (HE : Hid (parseE l = 0)) (hlen : l.length ≤ 24) :
    Calls Tryd.prog 4 #[.int .i64 x] w fun e w' => e = .returned (.bool true) ∧ Below w.heap.size w w' := by
  have k0 : (x == 0) = false := by rw [beq_eq_false_iff_ne]; omega
  go_enter Tryd.func4, Tryd.ntmps4
  go_wp2_with fail
  refine (awake_any _ ht).mono ?_
  rintro e w1 ⟨rfl, hb⟩
  have ht1 := ht.later hb
  go_wp2_with fail
  refine (print_is x (45 :: l) _ ht1 HL.out).mono ?_
  rintro e w2 ⟨rfl, hb2⟩
  have ht2 := ht1.later hb2
  go_wp2_with fail
  refine (sub_is (sub0 x) _).mono ?_
  rintro e w3 ⟨rfl, rfl⟩
  go_wp2_with fail
  refine (print_is (-sat x) l _ ht2 HN.out).mono ?_
  rintro e w3 ⟨rfl, hb3⟩
  have htl := text_tail 45 l
  go_wp2_with fail
  refine (parse_is l (-sat x) 0 _ (by omega) HP.out HE.out).mono ?_
  rintro e w4 ⟨rfl, rfl⟩
  have hcat : (45 :: l == ((⟨#[45]⟩ : ByteArray) ++ ⟨l.toArray⟩).toList) = true := by rw [bytes_one 45, bytes_app]; simp
  go_wp2_with fail
  refine (sub_is (sub0 x) _).mono ?_
  rintro e w5 ⟨rfl, rfl⟩
  go_wp2
  go_ret
  exact ⟨rfl, below_two hb (below_two hb2 hb3)⟩

theorem walk (w : World) (ht : Tab w) (a0 : Int) (w0 : (Lit.int .i64 a0).wf = true) :
    Calls Tryd.prog 4 #[.int .i64 a0] w fun e w' => e = .returned (.bool true) ∧ Below w.heap.size w w' := by
  have b1 := sat_lo a0
  have b2 := sat_hi a0
  by_cases h0 : a0 = 0
  · subst h0; exact walk_zero w ht
  · by_cases h1 : 0 < a0
    · have := sat_pos h1
      exact walk_pos w ht a0 h1 (digitsOf (sat a0)) (print_pos h1).1 (print_pos h1).2 (digits_len (by omega) b2)
    · have h2 : a0 < 0 := by omega
      have := sat_negative h2
      exact walk_neg w ht a0 h2 (digitsOf (-sat a0)) (print_neg h2).1 (print_neg h2).2 (parse_digits (by omega) (by omega)).1 (parse_digits (by omega) (by omega)).2 (digits_len (by omega) (by omega))

theorem own : ownKnob Tryd.prog.godebug = none := by kernel_rfl
theorem laidOut : laidOutB Tryd.prog = true := by kernel_rfl

set_option maxRecDepth 100000 in
theorem lifted (os : Os) (started : os.Started) (H : Type) (enc : TypeId × Value → H) :
    ReturnsInHanded {} Tryd.checked os 4 .any (fun w args => (Rows.fixedSignsSpec.pre enc Tryd.prog Tryd.f4 [] false w args ∧ laidMetH Tryd.prog Rows.fixedSignsRow.laid w) ∧ sizedMet enc Tryd.prog Tryd.f4 (OpenSpec.ofChange Rows.fixedSignsSpec) false w args)
      (Rows.fixedSignsSpec.post enc Tryd.prog Tryd.f4 false true false false) := by
  refine returnsInHanded_of_change_and (C := Tryd.checked) (X := fun w _ => laidMetH Tryd.prog Rows.fixedSignsRow.laid w) (fun _ _ _ hh h => h.of_heap hh) own started (by kernel_rfl) Tryd.func4
    (ChangeSpec.witness_shaped (enc := enc) (C := Tryd.checked) (os := os) (X := fun w _ => laidMetH Tryd.prog Rows.fixedSignsRow.laid w) false (World.laidAll Tryd.prog os Rows.fixedSignsRow.laid) #[.int .i64 0] 8 (World.laidAll_os _ _ _)
      (World.shaped_of_ZipB (by kernel_rfl) (by kernel_rfl)) (by kernel_rfl) (by kernel_rfl) (by kernel_rfl)
      (by rw [MakeChecks.laidMetH_plain _ _ _ (by kernel_rfl)]; exact laidMet_laidAll _ (by kernel_rfl) (by kernel_rfl))) ?_
  intro W base args ds gs before hval0 hW _ _ hL _
  have hval : ∀ (j : Nat) t v, Tryd.f4.params[j]? = some t → args[j]? = some v → Value.okWide Tryd.prog W .any base t v := hval0
  have hW' := hW
  obtain ⟨p, q, hA0, hV, rfl, hfz, hnd⟩ := hW
  have hA : DataW.TrodAll enc Tryd.prog W 0 (fun _ => true) true Tryd.f4.params.toList args.toList ds p := hA0
  rw [Tryd.params4] at hA hval
  obtain ⟨v0, vs0, d0, ds0, p0, q0, hargs, rfl, rfl, h0, r0⟩ := trodAll_cons hA
  obtain ⟨rfl, rfl, rfl⟩ := trodAll_nil r0
  obtain rfl : args = #[v0] := by cases args; simp_all
  obtain ⟨rfl, rfl⟩ := trodVars_none hV
  obtain ⟨a0, rfl, rfl, rfl, w0⟩ := open_int Tryd.underlying2 (hval 0 2 v0 rfl rfl) h0
  clear hA0 hval0
  refine (walk W (tab_of (by rw [MakeChecks.laidMetH_plain _ _ _ (by kernel_rfl)]) hL) a0 w0).mono fun e W' ⟨he, bel⟩ => ?_
  subst he
  exact ⟨_, rfl, _, _, _, [], _, [], hW', trodAll_mk1 (shut_bool Tryd.underlying4 _), (trodAll_cons_mk (shut_int Tryd.underlying2 w0) trodAll_mk0), rfl, bel.frame _, fun h => by cases h⟩

theorem over : Rows.FixedSignsSaid :=
  OpenClaim.holds_of_wide 4 Tryd.f4 rfl rfl rfl rfl rfl rfl rfl ⟨rfl, rfl, rfl, rfl, rfl⟩ rfl rfl rfl rfl rfl (by kernel_rfl) Tryd.func4 (by kernel_rfl)
    (of_decide_eq_true (by kernel_rfl)) (by unfold Func.isWrapper; first | (rw [if_pos (by decide +kernel)]; kernel_rfl) | (rw [if_neg (by decide +kernel)]; exact ⟨rfl, rfl⟩))
    (fun os started H enc _ => lifted os started H enc)

theorem proved : Rows.FixedSignsCardSaid :=
  Claim7.holds_tied_plain_at .later [] [.data, .data, .data, .data, .pinned] true (true, "8065065f0a1bd10e60757bd21c9227da07d98b50f16e10f43d69137a89b9d475") false
    over (fun _ h => by cases h) (by kernel_rfl) (fun _ h => by cases h) fixedSigns_row_tie rfl ⟨rfl, rfl⟩ (by kernel_rfl) rfl
    (fun f fn hf hfn => by
      obtain rfl : f = 4 := Option.some.inj ((show Tryd.prog.funcNamed "tocsin/tocsinlaw01.FixedSigns" = some 4 by kernel_rfl).symm.trans hf) |>.symm
      obtain rfl : fn = Tryd.f4 := (Option.some.inj (Tryd.func4.symm.trans hfn)).symm
      exact ⟨by kernel_rfl, fun j t ht => by
        rw [Tryd.params4] at ht
        have hm : t ∈ [2] := by simpa using Array.mem_of_getElem? ht
        have hall : ([2].all fun u => !Tryd.prog.wantsStandIn u) = true := by kernel_rfl
        exact (show Tryd.prog.wantsStandIn t = false by simpa using List.all_eq_true.1 hall t hm)⟩)
    (by kernel_rfl)
#print axioms proved

end Go.Proofs.YtdiflalllajagabDoor.fixedSigns
