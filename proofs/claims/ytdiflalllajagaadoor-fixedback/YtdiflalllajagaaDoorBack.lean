/- For any number and any string the law FixedBack of the program returns true and leaves its arguments as they were: what is written is read as the same number, what is read is written in the shortest way, which is read as the same number. The card ties the library's tables that the row lists to the program's text; no other condition. -/
import Derived.Test.YtdiflalllajagaaDoorLaid
import Derived.Test.YtdiflalllajagaaDoorTexts3
import Derived.Test.YtdiflalllajagaaDoorWithin
namespace Go.Proofs.YtdiflalllajagaaDoor.fixedBack
open Go.ChangeShapes Go.WideShapes Go.ChangeAt Go.RowKit
open Go.ChangeMaps (open_string shut_string)
set_option linter.unusedVariables false

theorem sat_is {x m : Int} (h : sat x = m) (w : World) : Calls Tryd.prog 13 #[.int .i64 x] w fun e w' => e = .returned (.int .i64 m) ∧ w' = w := by
  subst h; exact sat_any x w
theorem parse_text (s : ByteArray) (n e0 : Int) (w : World) (hs : s.size ≤ maxLen) (hn : parseN s.data.toList = n) (he : parseE s.data.toList = e0) :
    Calls Tryd.prog 8 #[.string s] w fun e w' => e = .returned (.tuple #[.int .i64 n, .int .i64 e0]) ∧ w' = w := by
  subst hn; subst he; exact parse_any s w hs

set_option maxHeartbeats 400000 in
theorem walk_long (w : World) (ht : Tab w) (x : Int) (s : ByteArray) (hs : s.size ≤ maxLen) (h : 20000 < s.size) :
    Calls Tryd.prog 5 #[.int .i64 x, .string s] w fun e w' => e = .returned (.bool true) ∧ Below w.heap.size w w' := by
  unfold maxLen at hs
  have h' : (20000 : Int) < (s.size : Int) := by omega
  go_enter Tryd.func5, Tryd.ntmps5
  go_wp2_with (go_at_call 12; refine (awake_any _ ht).mono ?_; rintro e w1 ⟨rfl, hb⟩)
  go_ret
  exact ⟨rfl, hb⟩

set_option maxHeartbeats 400000 in
theorem walk_no (w : World) (ht : Tab w) (x : Int) (s : ByteArray) (h : s.size ≤ 20000) (p : List UInt8) (HP : Hid (printL x = p)) (hp : p.length ≤ 25) (y : Int) (HY : Hid (sat x = y)) (HPN : Hid (parseN p = y)) (HPE : Hid (parseE p = 0))
    (HZ : Hid (parseN s.data.toList = 0)) (HE : Hid (parseE s.data.toList = 10)) :
    Calls Tryd.prog 5 #[.int .i64 x, .string s] w fun e w' => e = .returned (.bool true) ∧ Below w.heap.size w w' := by
  have h' : ¬ (20000 : Int) < (s.size : Int) := by omega
  go_enter Tryd.func5, Tryd.ntmps5
  go_wp2_with fail
  refine (awake_any _ ht).mono ?_
  rintro e w1 ⟨rfl, hb⟩
  have ht1 := ht.later hb
  go_wp2_with fail
  refine (print_is x p _ ht1 HP.out).mono ?_
  rintro e w2 ⟨rfl, hb2⟩
  go_wp2_with fail
  refine (parse_is p y 0 _ (by omega) HPN.out HPE.out).mono ?_
  rintro e w3 ⟨rfl, rfl⟩
  go_wp2_with fail
  refine (sat_is HY.out _).mono ?_
  rintro e w3 ⟨rfl, rfl⟩
  go_wp2_with fail
  refine (parse_text s 0 10 _ (by unfold maxLen; omega) HZ.out HE.out).mono ?_
  rintro e w3 ⟨rfl, rfl⟩
  go_wp2
  go_ret
  exact ⟨rfl, below_two hb hb2⟩

set_option maxHeartbeats 1000000 in
theorem walk_yes (w : World) (ht : Tab w) (x : Int) (s : ByteArray) (h : s.size ≤ 20000) (p : List UInt8) (HP : Hid (printL x = p)) (hp : p.length ≤ 25) (y : Int) (HY : Hid (sat x = y)) (HPN : Hid (parseN p = y)) (HPE : Hid (parseE p = 0))
    (z : Int) (HZ : Hid (parseN s.data.toList = z)) (HE : Hid (parseE s.data.toList = 0)) (t : List UInt8) (HT : Hid (printL z = t)) (ht25 : t.length ≤ 25) (HTN : Hid (parseN t = z)) (HTE : Hid (parseE t = 0))
    (z1 : -4611686018427387903 ≤ z) (z2 : z ≤ 4611686018427387903) (HOR : Hid (t.length ≤ s.size ∨ z = 4611686018427387903 ∨ z = -4611686018427387903)) :
    Calls Tryd.prog 5 #[.int .i64 x, .string s] w fun e w' => e = .returned (.bool true) ∧ Below w.heap.size w w' := by
  have h' : ¬ (20000 : Int) < (s.size : Int) := by omega
  go_enter Tryd.func5, Tryd.ntmps5
  go_wp2_with fail
  refine (awake_any _ ht).mono ?_
  rintro e w1 ⟨rfl, hb⟩
  have ht1 := ht.later hb
  go_wp2_with fail
  refine (print_is x p _ ht1 HP.out).mono ?_
  rintro e w2 ⟨rfl, hb2⟩
  have ht2 := ht1.later hb2
  go_wp2_with fail
  refine (parse_is p y 0 _ (by omega) HPN.out HPE.out).mono ?_
  rintro e w3 ⟨rfl, rfl⟩
  go_wp2_with fail
  refine (sat_is HY.out _).mono ?_
  rintro e w3 ⟨rfl, rfl⟩
  go_wp2_with fail
  refine (parse_text s z 0 _ (by unfold maxLen; omega) HZ.out HE.out).mono ?_
  rintro e w3 ⟨rfl, rfl⟩
  go_wp2_with fail
  refine (print_is z t _ ht2 HT.out).mono ?_
  rintro e w4 ⟨rfl, hb4⟩
  have ht4 := ht2.later hb4
  go_wp2_with fail
  refine (parse_is t z 0 _ (by omega) HTN.out HTE.out).mono ?_
  rintro e w5 ⟨rfl, rfl⟩
  go_wp2_with fail
  refine (within_yes _ _ z1 z2).mono ?_
  rintro e w5 ⟨rfl, rfl⟩
  have fin : Below w.heap.size w w5 := below_two hb (below_two hb2 hb4)
  by_cases o1 : t.length ≤ s.size
  · have o1' : (t.length : Int) ≤ (s.size : Int) := by omega
    go_wp2_with fail
    refine (print_is z t _ ht4 HT.out).mono ?_
    rintro e w6 ⟨rfl, hb6⟩
    go_wp2
    go_ret
    exact ⟨rfl, below_two fin hb6⟩
  · have o1' : ¬ (t.length : Int) ≤ (s.size : Int) := by omega
    by_cases o2 : z = 4611686018427387903
    · have k2 : (z == 4611686018427387903) = true := by rw [o2]; rfl
      clear o2
      go_wp2_with fail
      refine (print_is z t _ ht4 HT.out).mono ?_
      rintro e w6 ⟨rfl, hb6⟩
      go_wp2
      go_ret
      exact ⟨rfl, below_two fin hb6⟩
    · have k2 : (z == 4611686018427387903) = false := by rw [beq_eq_false_iff_ne]; exact o2
      have k3 : (z == -4611686018427387903) = true := by
        rw [beq_iff_eq]
        rcases HOR.out with h | h | h
        · exact absurd h o1
        · exact absurd h o2
        · exact h
      clear o2
      go_wp2_with fail
      refine (print_is z t _ ht4 HT.out).mono ?_
      rintro e w6 ⟨rfl, hb6⟩
      go_wp2
      go_ret
      exact ⟨rfl, below_two fin hb6⟩

theorem walk (w : World) (ht : Tab w) (a0 : Int) (w0 : (Lit.int .i64 a0).wf = true) (a1 : ByteArray) (w1 : a1.size ≤ maxLen) :
    Calls Tryd.prog 5 #[.int .i64 a0, .string a1] w fun e w' => e = .returned (.bool true) ∧ Below w.heap.size w w' := by
  by_cases hl : 20000 < a1.size
  · exact walk_long w ht a0 a1 w1 hl
  · have pp := parse_print a0
    by_cases he : parseE a1.data.toList = 0
    · obtain ⟨z1, z2, hor⟩ := back_len he
      have zz := sat_in z1 z2
      have pz := parse_print (parseN a1.data.toList)
      rw [← zz] at pz
      exact walk_yes w ht a0 a1 (by omega) (printL a0) rfl (print_len a0) (sat a0) rfl pp.1 pp.2 (parseN a1.data.toList) rfl he (printL (parseN a1.data.toList)) rfl (print_len _) pz.1 pz.2 z1 z2 (by rw [Lib.size_eq]; exact hor)
    · have hno := parse_no he
      exact walk_no w ht a0 a1 (by omega) (printL a0) rfl (print_len a0) (sat a0) rfl pp.1 pp.2 hno.1 hno.2

theorem own : ownKnob Tryd.prog.godebug = none := by kernel_rfl
theorem laidOut : laidOutB Tryd.prog = true := by kernel_rfl

set_option maxRecDepth 100000 in
theorem lifted (os : Os) (started : os.Started) (H : Type) (enc : TypeId × Value → H) :
    ReturnsInHanded {} Tryd.checked os 5 .any (fun w args => (Rows.fixedBackSpec.pre enc Tryd.prog Tryd.f5 [] false w args ∧ laidMetH Tryd.prog Rows.fixedBackRow.laid w) ∧ sizedMet enc Tryd.prog Tryd.f5 (OpenSpec.ofChange Rows.fixedBackSpec) false w args)
      (Rows.fixedBackSpec.post enc Tryd.prog Tryd.f5 false true false false) := by
  refine returnsInHanded_of_change_and (C := Tryd.checked) (X := fun w _ => laidMetH Tryd.prog Rows.fixedBackRow.laid w) (fun _ _ _ hh h => h.of_heap hh) own started (by kernel_rfl) Tryd.func5
    (ChangeSpec.witness_shaped (enc := enc) (C := Tryd.checked) (os := os) (X := fun w _ => laidMetH Tryd.prog Rows.fixedBackRow.laid w) false (World.laidAll Tryd.prog os Rows.fixedBackRow.laid) #[.int .i64 0, .string ⟨#[]⟩] 8 (World.laidAll_os _ _ _)
      (World.shaped_of_ZipB (by kernel_rfl) (by kernel_rfl)) (by kernel_rfl) (by kernel_rfl) (by kernel_rfl)
      (by rw [MakeChecks.laidMetH_plain _ _ _ (by kernel_rfl)]; exact laidMet_laidAll _ (by kernel_rfl) (by kernel_rfl))) ?_
  intro W base args ds gs before hval0 hW _ _ hL _
  have hval : ∀ (j : Nat) t v, Tryd.f5.params[j]? = some t → args[j]? = some v → Value.okWide Tryd.prog W .any base t v := hval0
  have hW' := hW
  obtain ⟨p, q, hA0, hV, rfl, hfz, hnd⟩ := hW
  have hA : DataW.TrodAll enc Tryd.prog W 0 (fun _ => true) true Tryd.f5.params.toList args.toList ds p := hA0
  rw [Tryd.params5] at hA hval
  obtain ⟨v0, vs0, d0, ds0, p0, q0, hargs, rfl, rfl, h0, r0⟩ := trodAll_cons hA
  obtain ⟨v1, vs1, d1, ds1, p1, q1, rfl, rfl, rfl, h1, r1⟩ := trodAll_cons r0
  obtain ⟨rfl, rfl, rfl⟩ := trodAll_nil r1
  obtain rfl : args = #[v0, v1] := by cases args; simp_all
  obtain ⟨rfl, rfl⟩ := trodVars_none hV
  obtain ⟨a0, rfl, rfl, rfl, w0⟩ := open_int Tryd.underlying2 (hval 0 2 v0 rfl rfl) h0
  obtain ⟨a1, rfl, rfl, rfl, w1⟩ := open_string Tryd.underlying9 (hval 1 9 v1 rfl rfl) h1
  clear hA0 hval0
  refine (walk W (tab_of (by rw [MakeChecks.laidMetH_plain _ _ _ (by kernel_rfl)]) hL) a0 w0 a1 w1).mono fun e W' ⟨he, bel⟩ => ?_
  subst he
  exact ⟨_, rfl, _, _, _, [], _, [], hW', trodAll_mk1 (shut_bool Tryd.underlying4 _), (trodAll_cons_mk (shut_int Tryd.underlying2 w0) (trodAll_cons_mk (shut_string Tryd.underlying9 w1) trodAll_mk0)), rfl, bel.frame _, fun h => by cases h⟩

theorem over : Rows.FixedBackSaid :=
  OpenClaim.holds_of_wide 5 Tryd.f5 rfl rfl rfl rfl rfl rfl rfl ⟨rfl, rfl, rfl, rfl, rfl⟩ rfl rfl rfl rfl rfl (by kernel_rfl) Tryd.func5 (by kernel_rfl)
    (of_decide_eq_true (by kernel_rfl)) (by unfold Func.isWrapper; first | (rw [if_pos (by decide +kernel)]; kernel_rfl) | (rw [if_neg (by decide +kernel)]; exact ⟨rfl, rfl⟩))
    (fun os started H enc _ => lifted os started H enc)

theorem proved : Rows.FixedBackCardSaid :=
  Claim7.holds_tied_plain_at .later [] [.data, .data, .data, .data, .pinned] true (true, "4f1487c7d62dcca48653913380754becc4fcc628109bfa5974b8ef6ce13fab6a") false
    over (fun _ h => by cases h) (by kernel_rfl) (fun _ h => by cases h) fixedBack_row_tie rfl ⟨rfl, rfl⟩ (by kernel_rfl) rfl
    (fun f fn hf hfn => by
      obtain rfl : f = 5 := Option.some.inj ((show Tryd.prog.funcNamed "tocsin/tocsinlaw01.FixedBack" = some 5 by kernel_rfl).symm.trans hf) |>.symm
      obtain rfl : fn = Tryd.f5 := (Option.some.inj (Tryd.func5.symm.trans hfn)).symm
      exact ⟨by kernel_rfl, fun j t ht => by
        rw [Tryd.params5] at ht
        have hm : t ∈ [2, 9] := by simpa using Array.mem_of_getElem? ht
        have hall : ([2, 9].all fun u => !Tryd.prog.wantsStandIn u) = true := by kernel_rfl
        exact (show Tryd.prog.wantsStandIn t = false by simpa using List.all_eq_true.1 hall t hm)⟩)
    (by kernel_rfl)
#print axioms proved

end Go.Proofs.YtdiflalllajagaaDoor.fixedBack
