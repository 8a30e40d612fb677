/- For any numbers the law FixedWithin of the program returns true and leaves its arguments as they were: all answers are within the bounds, Add doesn't mind the order, Sub leads back where nothing was saturated. The card ties the library's tables that the row lists to the program's text; no other condition. -/
import Derived.Test.YtdiflalllajagaaDoorLaid
import Derived.Test.YtdiflalllajagaaDoorWithin
namespace Go.Proofs.YtdiflalllajagaaDoor.fixedWithin
open Go.ChangeShapes Go.WideShapes Go.ChangeAt Go.RowKit
open Go.ChangeMaps (open_string shut_string)
set_option linter.unusedVariables false

theorem tdiv_pos {x n : Int} (hn : 1 ≤ n) (hx : 0 ≤ x) : 0 ≤ x.tdiv n ∧ x.tdiv n ≤ x ∧ 0 ≤ x - x.tdiv n * n ∧ x - x.tdiv n * n < n := by
  rw [Int.tdiv_eq_ediv_of_nonneg hx]
  have h1 := Int.mul_ediv_add_emod x n
  have h2 := Int.emod_nonneg x (show n ≠ 0 by omega)
  have h3 := Int.emod_lt_of_pos x (show 0 < n by omega)
  have h4 := Int.ediv_nonneg hx (show 0 ≤ n by omega)
  have h5 := Int.ediv_le_self n hx
  have h6 := Int.mul_comm (x / n) n
  refine ⟨h4, h5, by omega, by omega⟩
theorem tdiv_neg {x n : Int} (hn : 1 ≤ n) (hx : x < 0) : x.tdiv n ≤ 0 ∧ x ≤ x.tdiv n ∧ x - x.tdiv n * n ≤ 0 ∧ -n < x - x.tdiv n * n := by
  have h := tdiv_pos hn (show 0 ≤ -x by omega)
  rw [Int.neg_tdiv, Int.neg_mul] at h
  omega
theorem mean_in {x n : Int} (hn : 1 ≤ n) (h : -4611686018427387903 ≤ sat x) (h' : sat x ≤ 4611686018427387903) : mean x n = (sat x).tdiv n := by
  unfold mean
  rw [if_neg (by omega)]
  by_cases hx : 0 ≤ sat x
  · have := tdiv_pos hn hx
    unfold wrap64; omega
  · have := tdiv_neg hn (show sat x < 0 by omega)
    unfold wrap64; omega
theorem sat_is {x m : Int} (h : sat x = m) (w : World) : Calls Tryd.prog 13 #[.int .i64 x] w fun e w' => e = .returned (.int .i64 m) ∧ w' = w := by
  subst h; exact sat_any x w
theorem sub_is {a b m : Int} (h : sat (sat a - sat b) = m) (w : World) : Calls Tryd.prog 15 #[.int .i64 a, .int .i64 b] w fun e w' => e = .returned (.int .i64 m) ∧ w' = w := by
  subst h; exact sub_any a b w
theorem within_is (x : Int) (v : Bool) (w : World) (h : inB x = v) : Calls Tryd.prog 16 #[.int .i64 x] w fun e w' => e = .returned (.bool v) ∧ w' = w := by
  subst h; exact within_any x w
theorem sat_eq (x : Int) : (sat x == x) = inB x := by
  have h1 := sat_lo x
  have h2 := sat_hi x
  by_cases h : -4611686018427387903 ≤ x ∧ x ≤ 4611686018427387903
  · rw [inB_yes h.1 h.2, ← sat_in h.1 h.2, beq_self_eq_true]
  · rw [inB_no h, beq_eq_false_iff_ne]
    intro e
    rw [e] at h1 h2
    exact h ⟨h1, h2⟩

theorem sum4_lo (a b c d : Int) : -4611686018427387903 ≤ sumOf [a, b, c, d] := by
  have : sumOf [a, b, c, d] = add (sumOf [a, b, c]) d := sumOf_snoc [a, b, c] d
  rw [this]; exact sat_lo _
theorem sum4_hi (a b c d : Int) : sumOf [a, b, c, d] ≤ 4611686018427387903 := by
  have : sumOf [a, b, c, d] = add (sumOf [a, b, c]) d := sumOf_snoc [a, b, c] d
  rw [this]; exact sat_hi _
theorem sum_4 (p cap : Nat) (a b c d : Int) (w : World) (h0 : w.cell? ⟨p, 0, none⟩ = some (.int .i64 a)) (h1 : w.cell? ⟨p, 1, none⟩ = some (.int .i64 b)) (h2 : w.cell? ⟨p, 2, none⟩ = some (.int .i64 c)) (h3 : w.cell? ⟨p, 3, none⟩ = some (.int .i64 d)) :
    Calls Tryd.prog 18 #[.slice (some ⟨p, 0, none⟩) 4 cap] w fun e w' => e = .returned (.int .i64 (sumOf [a, b, c, d])) ∧ w' = w := by
  have h := sum_any p 0 4 cap [a, b, c, d] w (by unfold maxLen; omega) (Nat.le_refl _) (fun i hi => by
    match i, hi with
    | 0, _ => exact h0
    | 1, _ => exact h1
    | 2, _ => exact h2
    | 3, _ => exact h3)
  exact h
theorem new_four (w : World) (a b c d : Value) (t : TypeId) : (w.alloc (.cells #[a, b, c, d] t)).cell? ⟨w.heap.size, 0, none⟩ = some a ∧ (w.alloc (.cells #[a, b, c, d] t)).cell? ⟨w.heap.size, 1, none⟩ = some b ∧ (w.alloc (.cells #[a, b, c, d] t)).cell? ⟨w.heap.size, 2, none⟩ = some c ∧ (w.alloc (.cells #[a, b, c, d] t)).cell? ⟨w.heap.size, 3, none⟩ = some d := by
  refine ⟨?_, ?_, ?_, ?_⟩ <;> simp

set_option maxHeartbeats 2000000 in
theorem walk_of (w : World) (ht : Tab w) (a b n x y s l m t : Int) (va : Bool)
    (HX : Hid (sat a = x)) (HY : Hid (sat b = y)) (HS : Hid (sat (sat a + sat b) = s)) (HS2 : Hid (sat (sat b + sat a) = s)) (HD : Hid (sat (sat a - sat b) = l)) (HD2 : Hid (sat (sat b - sat a) = -l)) (HM : Hid (mean a n = m))
    (HXX : Hid (sat x = x)) (HA : Hid (inB a = va)) (ha : (x == a) = va)
    (hx : -4611686018427387903 ≤ x) (hx' : x ≤ 4611686018427387903) (hy : -4611686018427387903 ≤ y) (hy' : y ≤ 4611686018427387903) (hs : -4611686018427387903 ≤ s) (hs' : s ≤ 4611686018427387903)
    (hl : -4611686018427387903 ≤ l) (hl' : l ≤ 4611686018427387903) (hm : -4611686018427387903 ≤ m) (hm' : m ≤ 4611686018427387903)
    (hxy : ¬ (-4611686018427387903 ≤ x + y ∧ x + y ≤ 4611686018427387903) ∨ (s = x + y ∧ sat (sat s - sat b) = x))
    (hfin : n < 1 ∧ m = 0 ∨ ¬ n < 1 ∧ n ≤ 9223372036854775807 ∧ -4611686018427387903 ≤ m * n ∧ m * n ≤ 4611686018427387903 ∧ (0 ≤ x ∧ 0 ≤ m ∧ 0 ≤ x - m * n ∧ x - m * n < n ∨ x < 0 ∧ m ≤ 0 ∧ x - m * n ≤ 0 ∧ -n < x - m * n)) :
    Calls Tryd.prog 4 #[.int .i64 a, .int .i64 b, .int .i64 n] w fun e w' => e = .returned (.bool true) ∧ Below w.heap.size w w' := by
  have HB := hxy
  have HB' : Hid (¬ (-4611686018427387903 ≤ x + y ∧ x + y ≤ 4611686018427387903) ∨ (s = x + y ∧ sat (sat s - sat b) = x)) := HB
  have HF : Hid (n < 1 ∧ m = 0 ∨ ¬ n < 1 ∧ n ≤ 9223372036854775807 ∧ -4611686018427387903 ≤ m * n ∧ m * n ≤ 4611686018427387903 ∧ (0 ≤ x ∧ 0 ≤ m ∧ 0 ≤ x - m * n ∧ x - m * n < n ∨ x < 0 ∧ m ≤ 0 ∧ x - m * n ≤ 0 ∧ -n < x - m * n)) := hfin
  clear hxy hfin HB
  have t1 := sum4_lo a b a b
  have t2 := sum4_hi a b a b
  go_enter Tryd.func4, Tryd.ntmps4
  go_wp2_with fail
  refine (awake_any _ ht).mono ?_
  rintro e w1 ⟨rfl, hb⟩
  go_wp2_with fail
  refine (sat_is HX.out _).mono ?_
  rintro e w2 ⟨rfl, rfl⟩
  go_wp2_with fail
  refine (sat_is HY.out _).mono ?_
  rintro e w2 ⟨rfl, rfl⟩
  go_wp2_with fail
  refine (add_is _ _ _ _ HS.out).mono ?_
  rintro e w2 ⟨rfl, rfl⟩
  go_wp2_with fail
  refine (sub_is HD.out _).mono ?_
  rintro e w2 ⟨rfl, rfl⟩
  go_wp2_with (go_at_call 16; refine (within_yes _ _ (by omega) (by omega)).mono ?_; rintro e w2 ⟨rfl, rfl⟩)
  refine (mean_is _ _ _ _ HM.out).mono ?_
  rintro e w2 ⟨rfl, rfl⟩
  go_wp2_with fail
  refine (within_yes _ _ (by omega) (by omega)).mono ?_
  rintro e w2 ⟨rfl, rfl⟩
  go_wp2_with fail
  refine (sum_4 _ _ a b a b _ (new_four _ _ _ _ _ _).1 (new_four _ _ _ _ _ _).2.1 (new_four _ _ _ _ _ _).2.2.1 (new_four _ _ _ _ _ _).2.2.2).mono ?_
  rintro e w3 ⟨rfl, rfl⟩
  go_wp2_with fail
  refine (within_yes _ _ t1 t2).mono ?_
  rintro e w3 ⟨rfl, rfl⟩
  go_wp2_with fail
  refine (within_is a va _ HA.out).mono ?_
  rintro e w3 ⟨rfl, rfl⟩
  go_wp2_with fail
  refine (add_is _ _ _ _ HS2.out).mono ?_
  rintro e w3 ⟨rfl, rfl⟩
  go_wp2_with fail
  refine (sub_is HD2.out _).mono ?_
  rintro e w3 ⟨rfl, rfl⟩
  go_wp2_with fail
  refine (sat_is HXX.out _).mono ?_
  rintro e w3 ⟨rfl, rfl⟩
  go_wp2_with fail
  have hb3 : Below w.heap.size w (w2.alloc (.cells #[.int .i64 a, .int .i64 b, .int .i64 a, .int .i64 b] 2)) := hb.alloc hb.size _
  rcases HB'.out with hno | ⟨hyes, hyes2⟩
  · refine (within_is (x + y) false _ (inB_no hno)).mono ?_
    rintro e w3 ⟨rfl, rfl⟩
    clear hno
    go_wp2_with fail
    refine (mean_is _ _ _ _ HM.out).mono ?_
    rintro e w2 ⟨rfl, rfl⟩
    rcases HF.out with ⟨f1, f2⟩ | ⟨f1, f2, f3, f4, ⟨f5, f6, f7, f8⟩ | ⟨f5, f6, f7, f8⟩⟩
    · subst f2
      go_wp2
      go_ret
      exact ⟨rfl, hb3⟩
    · go_wp2
      go_ret
      exact ⟨rfl, hb3⟩
    · go_wp2
      go_ret
      exact ⟨rfl, hb3⟩
  · refine (within_yes _ _ (by omega) (by omega)).mono ?_
    rintro e w3 ⟨rfl, rfl⟩
    have q : (s != x + y) = false := by rw [hyes]; simp
    have HY2 : Hid (sat (sat s - sat b) = x) := hyes2
    clear hyes hyes2
    go_wp2_with fail
    refine (sub_is HY2.out _).mono ?_
    rintro e w3 ⟨rfl, rfl⟩
    go_wp2_with fail
    refine (mean_is _ _ _ _ HM.out).mono ?_
    rintro e w2 ⟨rfl, rfl⟩
    rcases HF.out with ⟨f1, f2⟩ | ⟨f1, f2, f3, f4, ⟨f5, f6, f7, f8⟩ | ⟨f5, f6, f7, f8⟩⟩
    · subst f2
      go_wp2
      go_ret
      exact ⟨rfl, hb3⟩
    · go_wp2
      go_ret
      exact ⟨rfl, hb3⟩
    · go_wp2
      go_ret
      exact ⟨rfl, hb3⟩

theorem walk (w : World) (ht : Tab w) (a0 : Int) (w0 : (Lit.int .i64 a0).wf = true) (a1 : Int) (w1 : (Lit.int .i64 a1).wf = true) (a2 : Int) (w2 : (Lit.int .i64 a2).wf = true) :
    Calls Tryd.prog 4 #[.int .i64 a0, .int .i64 a1, .int .i64 a2] w fun e w' => e = .returned (.bool true) ∧ Below w.heap.size w w' := by
  have x1 := sat_lo a0
  have x2 := sat_hi a0
  have y1 := sat_lo a1
  have y2 := sat_hi a1
  have n2 : a2 ≤ 9223372036854775807 := by
    have : -9223372036854775808 ≤ a2 ∧ a2 ≤ 9223372036854775807 := by simpa [Lit.wf, IntKind.min, IntKind.max, IntKind.signed, IntKind.bits] using w2
    exact this.2
  have hmean : a2 < 1 ∧ mean a0 a2 = 0 ∨ ¬ a2 < 1 ∧ a2 ≤ 9223372036854775807 ∧ -4611686018427387903 ≤ mean a0 a2 * a2 ∧ mean a0 a2 * a2 ≤ 4611686018427387903 ∧ (0 ≤ sat a0 ∧ 0 ≤ mean a0 a2 ∧ 0 ≤ sat a0 - mean a0 a2 * a2 ∧ sat a0 - mean a0 a2 * a2 < a2 ∨ sat a0 < 0 ∧ mean a0 a2 ≤ 0 ∧ sat a0 - mean a0 a2 * a2 ≤ 0 ∧ -a2 < sat a0 - mean a0 a2 * a2) := by
    by_cases hn : a2 < 1
    · exact .inl ⟨hn, by unfold mean; rw [if_pos hn]⟩
    · right
      rw [mean_in (by omega) x1 x2]
      by_cases hx : 0 ≤ sat a0
      · have h := tdiv_pos (n := a2) (by omega) hx
        have h2 := Int.mul_nonneg h.1 (show 0 ≤ a2 by omega)
        refine ⟨hn, n2, by omega, by omega, .inl ⟨hx, h.1, h.2.2.1, h.2.2.2⟩⟩
      · have h := tdiv_neg (n := a2) (by omega) (show sat a0 < 0 by omega)
        have h2 := Int.mul_nonneg (show 0 ≤ -(sat a0).tdiv a2 by omega) (show 0 ≤ a2 by omega)
        rw [Int.neg_mul] at h2
        refine ⟨hn, n2, by omega, by omega, .inr ⟨by omega, h.1, h.2.2.1, h.2.2.2⟩⟩
  have hmb : -4611686018427387903 ≤ mean a0 a2 ∧ mean a0 a2 ≤ 4611686018427387903 := by
    by_cases hn : a2 < 1
    · have : mean a0 a2 = 0 := by unfold mean; rw [if_pos hn]
      omega
    · rw [mean_in (by omega) x1 x2]
      by_cases hx : 0 ≤ sat a0
      · have h := tdiv_pos (n := a2) (by omega) hx
        omega
      · have h := tdiv_neg (n := a2) (by omega) (show sat a0 < 0 by omega)
        omega
  refine walk_of w ht a0 a1 a2 (sat a0) (sat a1) (sat (sat a0 + sat a1)) (sat (sat a0 - sat a1)) (mean a0 a2) 0 (inB a0) rfl rfl rfl ?_ rfl ?_ rfl (sat_sat _) rfl (sat_eq a0) x1 x2 y1 y2 (sat_lo _) (sat_hi _) (sat_lo _) (sat_hi _) hmb.1 hmb.2 ?_ hmean
  · show sat (sat a1 + sat a0) = _
    rw [Int.add_comm]
  · show sat (sat a1 - sat a0) = _
    rw [← sat_neg]
    congr 1
    omega
  · by_cases h : -4611686018427387903 ≤ sat a0 + sat a1 ∧ sat a0 + sat a1 ≤ 4611686018427387903
    · right
      have e := (sat_in h.1 h.2).symm
      refine ⟨e, ?_⟩
      rw [sat_sat, e, show sat a0 + sat a1 - sat a1 = sat a0 by omega, sat_sat]
    · exact .inl h

theorem own : ownKnob Tryd.prog.godebug = none := by kernel_rfl
theorem laidOut : laidOutB Tryd.prog = true := by kernel_rfl

set_option maxRecDepth 100000 in
theorem lifted (os : Os) (started : os.Started) (H : Type) (enc : TypeId × Value → H) :
    ReturnsInHanded {} Tryd.checked os 4 .any (fun w args => (Rows.fixedWithinSpec.pre enc Tryd.prog Tryd.f4 [] false w args ∧ laidMetH Tryd.prog Rows.fixedWithinRow.laid w) ∧ sizedMet enc Tryd.prog Tryd.f4 (OpenSpec.ofChange Rows.fixedWithinSpec) false w args)
      (Rows.fixedWithinSpec.post enc Tryd.prog Tryd.f4 false true false false) := by
  refine returnsInHanded_of_change_and (C := Tryd.checked) (X := fun w _ => laidMetH Tryd.prog Rows.fixedWithinRow.laid w) (fun _ _ _ hh h => h.of_heap hh) own started (by kernel_rfl) Tryd.func4
    (ChangeSpec.witness_shaped (enc := enc) (C := Tryd.checked) (os := os) (X := fun w _ => laidMetH Tryd.prog Rows.fixedWithinRow.laid w) false (World.laidAll Tryd.prog os Rows.fixedWithinRow.laid) #[.int .i64 0, .int .i64 0, .int .i64 0] 8 (World.laidAll_os _ _ _)
      (World.shaped_of_ZipB (by kernel_rfl) (by kernel_rfl)) (by kernel_rfl) (by kernel_rfl) (by kernel_rfl)
      (by rw [MakeChecks.laidMetH_plain _ _ _ (by kernel_rfl)]; exact laidMet_laidAll _ (by kernel_rfl) (by kernel_rfl))) ?_
  intro W base args ds gs before hval0 hW _ _ hL _
  have hval : ∀ (j : Nat) t v, Tryd.f4.params[j]? = some t → args[j]? = some v → Value.okWide Tryd.prog W .any base t v := hval0
  have hW' := hW
  obtain ⟨p, q, hA0, hV, rfl, hfz, hnd⟩ := hW
  have hA : DataW.TrodAll enc Tryd.prog W 0 (fun _ => true) true Tryd.f4.params.toList args.toList ds p := hA0
  rw [Tryd.params4] at hA hval
  obtain ⟨v0, vs0, d0, ds0, p0, q0, hargs, rfl, rfl, h0, r0⟩ := trodAll_cons hA
  obtain ⟨v1, vs1, d1, ds1, p1, q1, rfl, rfl, rfl, h1, r1⟩ := trodAll_cons r0
  obtain ⟨v2, vs2, d2, ds2, p2, q2, rfl, rfl, rfl, h2, r2⟩ := trodAll_cons r1
  obtain ⟨rfl, rfl, rfl⟩ := trodAll_nil r2
  obtain rfl : args = #[v0, v1, v2] := by cases args; simp_all
  obtain ⟨rfl, rfl⟩ := trodVars_none hV
  obtain ⟨a0, rfl, rfl, rfl, w0⟩ := open_int Tryd.underlying2 (hval 0 2 v0 rfl rfl) h0
  obtain ⟨a1, rfl, rfl, rfl, w1⟩ := open_int Tryd.underlying2 (hval 1 2 v1 rfl rfl) h1
  obtain ⟨a2, rfl, rfl, rfl, w2⟩ := open_int Tryd.underlying3 (hval 2 3 v2 rfl rfl) h2
  clear hA0 hval0
  refine (walk W (tab_of (by rw [MakeChecks.laidMetH_plain _ _ _ (by kernel_rfl)]) hL) a0 w0 a1 w1 a2 w2).mono fun e W' ⟨he, bel⟩ => ?_
  subst he
  exact ⟨_, rfl, _, _, _, [], _, [], hW', trodAll_mk1 (shut_bool Tryd.underlying4 _), (trodAll_cons_mk (shut_int Tryd.underlying2 w0) (trodAll_cons_mk (shut_int Tryd.underlying2 w1) (trodAll_cons_mk (shut_int Tryd.underlying3 w2) trodAll_mk0))), rfl, bel.frame _, fun h => by cases h⟩

theorem over : Rows.FixedWithinSaid :=
  OpenClaim.holds_of_wide 4 Tryd.f4 rfl rfl rfl rfl rfl rfl rfl ⟨rfl, rfl, rfl, rfl, rfl⟩ rfl rfl rfl rfl rfl (by kernel_rfl) Tryd.func4 (by kernel_rfl)
    (of_decide_eq_true (by kernel_rfl)) (by unfold Func.isWrapper; first | (rw [if_pos (by decide +kernel)]; kernel_rfl) | (rw [if_neg (by decide +kernel)]; exact ⟨rfl, rfl⟩))
    (fun os started H enc _ => lifted os started H enc)

theorem proved : Rows.FixedWithinCardSaid :=
  Claim7.holds_tied_plain_at .later [] [.data, .data, .data, .data, .pinned] true (true, "4f1487c7d62dcca48653913380754becc4fcc628109bfa5974b8ef6ce13fab6a") false
    over (fun _ h => by cases h) (by kernel_rfl) (fun _ h => by cases h) fixedWithin_row_tie rfl ⟨rfl, rfl⟩ (by kernel_rfl) rfl
    (fun f fn hf hfn => by
      obtain rfl : f = 4 := Option.some.inj ((show Tryd.prog.funcNamed "tocsin/tocsinlaw01.FixedWithin" = some 4 by kernel_rfl).symm.trans hf) |>.symm
      obtain rfl : fn = Tryd.f4 := (Option.some.inj (Tryd.func4.symm.trans hfn)).symm
      exact ⟨by kernel_rfl, fun j t ht => by
        rw [Tryd.params4] at ht
        have hm : t ∈ [2, 2, 3] := by simpa using Array.mem_of_getElem? ht
        have hall : ([2, 2, 3].all fun u => !Tryd.prog.wantsStandIn u) = true := by kernel_rfl
        exact (show Tryd.prog.wantsStandIn t = false by simpa using List.all_eq_true.1 hall t hm)⟩)
    (by kernel_rfl)
#print axioms proved

end Go.Proofs.YtdiflalllajagaaDoor.fixedWithin
