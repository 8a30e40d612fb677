/- For any number and any count the law FixedEqual of the program returns true and leaves its arguments as they were: the mean of so many equal numbers is that number, where their sum isn't saturated. The card ties the library's tables that the row lists to the program's text; no other condition. -/
import Derived.Test.YtdiflalllajagabDoorLaid
namespace Go.Proofs.YtdiflalllajagabDoor.fixedEqual
open Go.ChangeShapes Go.WideShapes Go.ChangeAt Go.RowKit
open Go.ChangeMaps (open_string shut_string)
set_option linter.unusedVariables false

theorem info2 : (Tryd.prog.info? 2).map (fun i => (i.zero, i.size, i.bytes)) = some (some (.int .i64 0), 1, 8) := by kernel_rfl

theorem mul_bd {x : Int} {k : Nat} (h1 : x ≤ 4611686018427387) (h2 : -4611686018427387 ≤ x) (hk : k ≤ 1000) : -4611686018427387903 ≤ x * (k : Int) ∧ x * (k : Int) ≤ 4611686018427387903 := by
  have a := Int.mul_le_mul_of_nonneg_right h1 (show (0 : Int) ≤ (k : Int) by omega)
  have b := Int.mul_le_mul_of_nonneg_right h2 (show (0 : Int) ≤ (k : Int) by omega)
  omega
theorem sum_rep {x : Int} (h1 : x ≤ 4611686018427387) (h2 : -4611686018427387 ≤ x) : ∀ k : Nat, k ≤ 1000 → sumOf (List.replicate k x) = x * (k : Int)
  | 0, _ => by simp [sumOf]
  | k + 1, hk => by
    rw [List.replicate_succ', sumOf_snoc, sum_rep h1 h2 k (by omega)]
    have b := mul_bd (k := k) h1 h2 (by omega)
    have c := mul_bd (k := k + 1) h1 h2 hk
    have e : x * ((k + 1 : Nat) : Int) = x * (k : Int) + x := by rw [Int.natCast_add, Int.mul_add]; simp
    unfold add
    rw [← sat_in b.1 b.2, ← sat_in (x := x) (by omega) (by omega), ← e, ← sat_in c.1 c.2]
theorem mean_rep {x : Int} {k : Nat} (h1 : x ≤ 4611686018427387) (h2 : -4611686018427387 ≤ x) (hk : k ≤ 1000) (hk0 : 1 ≤ k) : mean (x * (k : Int)) (k : Int) = x := by
  have b := mul_bd (k := k) h1 h2 hk
  unfold mean
  rw [if_neg (by omega), ← sat_in b.1 b.2, Int.mul_tdiv_cancel _ (by omega)]
  unfold wrap64; omega
theorem own_cells (x : Int) (len base : Nat) (v : Value) (w : World) (h0 : 0 < len) (h : w.ownsRow base 2 1 v len (List.replicate len (.int .i64 x))) :
    ∃ g cp, v = .slice (some ⟨g, 0, none⟩) len cp ∧ ∀ i, i < len → w.cell? ⟨g, 0 + i, none⟩ = some (.int .i64 ((List.replicate len x).getD i 0)) := by
  rcases h.2 with ⟨_, h2⟩ | ⟨g, cp, cur, rfl, _⟩
  · omega
  · refine ⟨g, cp, rfl, fun i hi => ?_⟩
    have := h.cells (g := g) rfl i (.int .i64 x) (by rw [List.getElem?_replicate, if_pos hi])
    rw [Addr.add_lit] at this
    rw [this]
    simp [List.getD, hi]
theorem sum_own (x : Int) (g cp len : Nat) (w : World) (hl : len ≤ 1000) (h1 : x ≤ 4611686018427387) (h2 : -4611686018427387 ≤ x)
    (h : ∀ i, i < len → w.cell? ⟨g, 0 + i, none⟩ = some (.int .i64 ((List.replicate len x).getD i 0))) :
    Calls Tryd.prog 7 #[.slice (some ⟨g, 0, none⟩) len cp] w fun e w' => e = .returned (.int .i64 (x * (len : Int))) ∧ w' = w := by
  have := sum_any g 0 len cp (List.replicate len x) w (by unfold maxLen; omega) (by simp) h
  rwa [List.take_of_length_le (by simp), sum_rep h1 h2 len hl] at this

set_option maxHeartbeats 400000 in
theorem walk_out (w : World) (ht : Tab w) (x n : Int) (h : n < 1 ∨ 1000 < n ∨ 4611686018427387 < x ∨ x < -4611686018427387) :
    Calls Tryd.prog 3 #[.int .i64 x, .int .i64 n] w fun e w' => e = .returned (.bool true) ∧ Below w.heap.size w w' := by
  have HH : Hid (n < 1 ∨ 1000 < n ∨ 4611686018427387 < x ∨ x < -4611686018427387) := h
  clear h
  by_cases h1 : n < 1
  · go_enter Tryd.func3, Tryd.ntmps3
    go_wp2_with (go_at_call 6; refine (awake_any _ ht).mono ?_; rintro e w1 ⟨rfl, hb⟩)
    go_ret
    exact ⟨rfl, hb⟩
  · by_cases h2 : 1000 < n
    · go_enter Tryd.func3, Tryd.ntmps3
      go_wp2_with (go_at_call 6; refine (awake_any _ ht).mono ?_; rintro e w1 ⟨rfl, hb⟩)
      go_ret
      exact ⟨rfl, hb⟩
    · by_cases h3 : 4611686018427387 < x
      · go_enter Tryd.func3, Tryd.ntmps3
        go_wp2_with (go_at_call 6; refine (awake_any _ ht).mono ?_; rintro e w1 ⟨rfl, hb⟩)
        go_ret
        exact ⟨rfl, hb⟩
      · have h4 : x < -4611686018427387 := by have := HH.out; omega
        go_enter Tryd.func3, Tryd.ntmps3
        go_wp2_with (go_at_call 6; refine (awake_any _ ht).mono ?_; rintro e w1 ⟨rfl, hb⟩)
        go_ret
        exact ⟨rfl, hb⟩

set_option maxHeartbeats 1000000 in
theorem walk_in (w : World) (ht : Tab w) (x : Int) (n : Nat) (h0 : 1 ≤ n) (h1 : n ≤ 1000) (h2 : x ≤ 4611686018427387) (h3 : -4611686018427387 ≤ x) :
    Calls Tryd.prog 3 #[.int .i64 x, .int .i64 (n : Int)] w fun e w' => e = .returned (.bool true) ∧ Below w.heap.size w w' := by
  obtain ⟨i0, hi, hz0, hz1, hz2⟩ := info_parts info2
  have q1 : decide ((n : Int) < 1) = false := by simp; omega
  have q2 : decide ((1000 : Int) < (n : Int)) = false := by simp; omega
  have q3 : decide ((4611686018427387 : Int) < x) = false := by simp; omega
  have q4 : decide (x < (-4611686018427387 : Int)) = false := by simp; omega
  have hb := mul_bd h2 h3 h1
  have HM : Hid (mean (x * (n : Int)) (n : Int) = x) := mean_rep h2 h3 h1 h0
  obtain ⟨g1, g2⟩ := hb
  go_enter Tryd.func3, Tryd.ntmps3
  go_wp2_with (first | (go_at_call 6; refine (awake_any _ ht).mono ?_; rintro e w1 ⟨rfl, hb⟩) | fail)
  go_loopw [5, 6] (fun v i wr => ∃ k : Nat, k ≤ n ∧ i = .int .i64 k ∧ wr.ownsRow w1.heap.size 2 1 v k (List.replicate k (.int .i64 x)) ∧ Below w1.heap.size w1 wr) (fun _ i _ => n - (intOf i).toNat)
  case atStart => exact ⟨0, Nat.zero_le _, rfl, World.ownsRow_nil _ _ _ _, Below.refl _ _⟩
  case round =>
    obtain ⟨k, hk, rfl, hown, hnx⟩ := hrel
    by_cases hlt : k < n
    · have hlt' : (k : Int) < (n : Int) := by omega
      obtain ⟨xs, HXS⟩ : ∃ xs : List Value, Hid (xs = List.replicate k (.int .i64 x)) := ⟨_, rfl⟩
      rw [← HXS.out] at hown
      have HO : Hid (wr.ownsRow w1.heap.size 2 1 _ k xs) := hown
      clear hown
      go_wp2_with (first
        | (at_builtin; refine wpList_append_own _ rfl _ _ 23 rfl w1.heap.size 2 i0 (.int .i64 0) 1 8 Tryd.underlying23 hi hz0 hz1 hz2 rfl (by decide) _ _ _ rfl (HO.out.alloc _) ⟨wr.heap.size, 0, none⟩ 1 1 [.int .i64 x] rfl rfl ?c1 ?c2 ?c3 ?c4 ?c5 ?_)
        | fail)
      case c1 =>
        intro j u hj
        match j, hj with
        | 0, hj => simp at hj; subst hj; simp [Addr.add]
      case c2 => intro u hu; simp at hu; subst hu; rfl
      case c3 => unfold maxLen; omega
      case c4 => omega
      case c5 => have := hnx.size; simp; omega
      intro v' w2 hown' hgrow _
      have hbel : Below w1.heap.size w1 w2 := (hnx.alloc hnx.size _).grown hgrow (by have := hnx.size; simp; omega) (fun j hj => (HO.out.lt j hj).1)
      rw [HXS.out, ← List.replicate_succ'] at hown'
      have HO' : Hid (w2.ownsRow w1.heap.size 2 1 v' (k + 1) (List.replicate (k + 1) (.int .i64 x))) := hown'
      clear hown' hgrow HO hnx
      go_wp2
      go_roundw
      case rel => exact ⟨k + 1, by omega, by go_num, HO'.out, hbel⟩
      case measure => simp [intOf]; omega
    · have hkn : k = n := by omega
      subst hkn
      have hex := own_cells x k _ _ wr (by omega) hown
      clear hown
      obtain ⟨g, cp, hv, hcm⟩ := hex
      have HC : Hid (∀ i, i < k → wr.cell? ⟨g, 0 + i, none⟩ = some (.int .i64 ((List.replicate k x).getD i 0))) := hcm
      clear hcm
      subst hv
      go_wp2_with (first | (go_at_call 7; refine (sum_own x _ _ _ _ h1 h2 h3 HC.out).mono ?_; rintro e w2 ⟨rfl, rfl⟩) | (go_at_call 8; refine (mean_is _ _ _ _ HM.out).mono ?_; rintro e w2 ⟨rfl, rfl⟩))
      go_ret
      exact ⟨rfl, below_two hb hnx⟩

theorem walk (w : World) (ht : Tab w) (a0 : Int) (w0 : (Lit.int .i64 a0).wf = true) (a1 : Int) (w1 : (Lit.int .i64 a1).wf = true) :
    Calls Tryd.prog 3 #[.int .i64 a0, .int .i64 a1] w fun e w' => e = .returned (.bool true) ∧ Below w.heap.size w w' := by
  by_cases h : a1 < 1 ∨ 1000 < a1 ∨ 4611686018427387 < a0 ∨ a0 < -4611686018427387
  · exact walk_out w ht a0 a1 h
  · obtain ⟨n, rfl⟩ := Int.eq_ofNat_of_zero_le (show 0 ≤ a1 by omega)
    exact walk_in w ht a0 n (by omega) (by omega) (by omega) (by omega)

theorem own : ownKnob Tryd.prog.godebug = none := by kernel_rfl
theorem laidOut : laidOutB Tryd.prog = true := by kernel_rfl

set_option maxRecDepth 100000 in
theorem lifted (os : Os) (started : os.Started) (H : Type) (enc : TypeId × Value → H) :
    ReturnsInHanded {} Tryd.checked os 3 .any (fun w args => (Rows.fixedEqualSpec.pre enc Tryd.prog Tryd.f3 [] false w args ∧ laidMetH Tryd.prog Rows.fixedEqualRow.laid w) ∧ sizedMet enc Tryd.prog Tryd.f3 (OpenSpec.ofChange Rows.fixedEqualSpec) false w args)
      (Rows.fixedEqualSpec.post enc Tryd.prog Tryd.f3 false true false false) := by
  refine returnsInHanded_of_change_and (C := Tryd.checked) (X := fun w _ => laidMetH Tryd.prog Rows.fixedEqualRow.laid w) (fun _ _ _ hh h => h.of_heap hh) own started (by kernel_rfl) Tryd.func3
    (ChangeSpec.witness_shaped (enc := enc) (C := Tryd.checked) (os := os) (X := fun w _ => laidMetH Tryd.prog Rows.fixedEqualRow.laid w) false (World.laidAll Tryd.prog os Rows.fixedEqualRow.laid) #[.int .i64 0, .int .i64 0] 8 (World.laidAll_os _ _ _)
      (World.shaped_of_ZipB (by kernel_rfl) (by kernel_rfl)) (by kernel_rfl) (by kernel_rfl) (by kernel_rfl)
      (by rw [MakeChecks.laidMetH_plain _ _ _ (by kernel_rfl)]; exact laidMet_laidAll _ (by kernel_rfl) (by kernel_rfl))) ?_
  intro W base args ds gs before hval0 hW _ _ hL _
  have hval : ∀ (j : Nat) t v, Tryd.f3.params[j]? = some t → args[j]? = some v → Value.okWide Tryd.prog W .any base t v := hval0
  have hW' := hW
  obtain ⟨p, q, hA0, hV, rfl, hfz, hnd⟩ := hW
  have hA : DataW.TrodAll enc Tryd.prog W 0 (fun _ => true) true Tryd.f3.params.toList args.toList ds p := hA0
  rw [Tryd.params3] at hA hval
  obtain ⟨v0, vs0, d0, ds0, p0, q0, hargs, rfl, rfl, h0, r0⟩ := trodAll_cons hA
  obtain ⟨v1, vs1, d1, ds1, p1, q1, rfl, rfl, rfl, h1, r1⟩ := trodAll_cons r0
  obtain ⟨rfl, rfl, rfl⟩ := trodAll_nil r1
  obtain rfl : args = #[v0, v1] := by cases args; simp_all
  obtain ⟨rfl, rfl⟩ := trodVars_none hV
  obtain ⟨a0, rfl, rfl, rfl, w0⟩ := open_int Tryd.underlying2 (hval 0 2 v0 rfl rfl) h0
  obtain ⟨a1, rfl, rfl, rfl, w1⟩ := open_int Tryd.underlying3 (hval 1 3 v1 rfl rfl) h1
  clear hA0 hval0
  refine (walk W (tab_of (by rw [MakeChecks.laidMetH_plain _ _ _ (by kernel_rfl)]) hL) a0 w0 a1 w1).mono fun e W' ⟨he, bel⟩ => ?_
  subst he
  exact ⟨_, rfl, _, _, _, [], _, [], hW', trodAll_mk1 (shut_bool Tryd.underlying4 _), (trodAll_cons_mk (shut_int Tryd.underlying2 w0) (trodAll_cons_mk (shut_int Tryd.underlying3 w1) trodAll_mk0)), rfl, bel.frame _, fun h => by cases h⟩

theorem over : Rows.FixedEqualSaid :=
  OpenClaim.holds_of_wide 3 Tryd.f3 rfl rfl rfl rfl rfl rfl rfl ⟨rfl, rfl, rfl, rfl, rfl⟩ rfl rfl rfl rfl rfl (by kernel_rfl) Tryd.func3 (by kernel_rfl)
    (of_decide_eq_true (by kernel_rfl)) (by unfold Func.isWrapper; first | (rw [if_pos (by decide +kernel)]; kernel_rfl) | (rw [if_neg (by decide +kernel)]; exact ⟨rfl, rfl⟩))
    (fun os started H enc _ => lifted os started H enc)

theorem proved : Rows.FixedEqualCardSaid :=
  Claim7.holds_tied_plain_at .later [] [.data, .data, .data, .data, .pinned] true (true, "8065065f0a1bd10e60757bd21c9227da07d98b50f16e10f43d69137a89b9d475") false
    over (fun _ h => by cases h) (by kernel_rfl) (fun _ h => by cases h) fixedEqual_row_tie rfl ⟨rfl, rfl⟩ (by kernel_rfl) rfl
    (fun f fn hf hfn => by
      obtain rfl : f = 3 := Option.some.inj ((show Tryd.prog.funcNamed "tocsin/tocsinlaw01.FixedEqual" = some 3 by kernel_rfl).symm.trans hf) |>.symm
      obtain rfl : fn = Tryd.f3 := (Option.some.inj (Tryd.func3.symm.trans hfn)).symm
      exact ⟨by kernel_rfl, fun j t ht => by
        rw [Tryd.params3] at ht
        have hm : t ∈ [2, 3] := by simpa using Array.mem_of_getElem? ht
        have hall : ([2, 3].all fun u => !Tryd.prog.wantsStandIn u) = true := by kernel_rfl
        exact (show Tryd.prog.wantsStandIn t = false by simpa using List.all_eq_true.1 hall t hm)⟩)
    (by kernel_rfl)
#print axioms proved

end Go.Proofs.YtdiflalllajagabDoor.fixedEqual
