/- For any three numbers of 32 bits and any two ints the law CrcRound of the program returns true: Join comes to the same over 2^31 - 1 bytes more, goes over the sum of two lengths as over one behind the other, and keeps exclusive-or. No condition. -/
import Derived.Test.YtfakplbgheljbaaAwake
import Derived.Test.YtfakplbgheljbaaOpen
namespace Go.Proofs.Ytfakplbgheljbaa.crcRound
open Go.ChangeShapes Go.WideShapes Go.ChangeAt Go.RowKit
set_option linter.unusedVariables false

theorem far (a b : R) (n : Nat) : txn (8 * (n + 2147483647)) a ^^^ b = txn (8 * n) a ^^^ b := by
  rw [Nat.mul_add, Nat.add_comm, txn_add, Nat.mul_comm 8 2147483647, txn_rounds]
theorem two (a : R) (n m : Nat) : txn (8 * m) (txn (8 * n) a ^^^ 0#32) ^^^ 0#32 = txn (8 * (n + m)) a ^^^ 0#32 := by
  rw [BitVec.xor_zero, BitVec.xor_zero, BitVec.xor_zero, Nat.mul_add, txn_add]
theorem both (a b c : R) (n : Nat) : txn (8 * n) (a ^^^ c) ^^^ b = (txn (8 * n) a ^^^ b) ^^^ (txn (8 * n) c ^^^ 0#32) := by
  rw [BitVec.xor_zero, txn_xor]; ac_rfl
theorem ne_false {a b : R} (h : a = b) : ((a.toNat : Int) != (b.toNat : Int)) = false := by subst h; simp
theorem eq_true' {a b : R} (h : a = b) : ((a.toNat : Int) == (b.toNat : Int)) = true := by subst h; simp

set_option maxHeartbeats 4000000 in
theorem walk_out (a b c : R) (n m : Int) (w : World) (h : n < 0 ∨ m < 0 ∨ 1125899906842624 < n ∨ 1125899906842624 < m) :
    Calls Try.prog 8 #[.int .u32 (a.toNat : Int), .int .u32 (b.toNat : Int), .int .u32 (c.toNat : Int), .int .i64 n, .int .i64 m] w fun e w' => e = .returned (.bool true) ∧ Below w.heap.size w w' := by
  by_cases h1 : n < 0
  · have d1 : decide (n < 0) = true := by simpa using h1
    go_enter Try.func8, Try.ntmps8
    go_wp2_with (go_at_call 16; refine (awake_any _).mono ?_; rintro e w1 ⟨rfl, hb⟩)
    go_ret
    exact ⟨rfl, hb⟩
  have d1 : decide (n < 0) = false := by simpa using h1
  by_cases h2 : m < 0
  · have d2 : decide (m < 0) = true := by simpa using h2
    go_enter Try.func8, Try.ntmps8
    go_wp2_with (go_at_call 16; refine (awake_any _).mono ?_; rintro e w1 ⟨rfl, hb⟩)
    go_ret
    exact ⟨rfl, hb⟩
  have d2 : decide (m < 0) = false := by simpa using h2
  by_cases h3 : 1125899906842624 < n
  · have d3 : decide (1125899906842624 < n) = true := by simpa using h3
    go_enter Try.func8, Try.ntmps8
    go_wp2_with (go_at_call 16; refine (awake_any _).mono ?_; rintro e w1 ⟨rfl, hb⟩)
    go_ret
    exact ⟨rfl, hb⟩
  have d3 : decide (1125899906842624 < n) = false := by simpa using h3
  have h4 : 1125899906842624 < m := by omega
  have d4 : decide (1125899906842624 < m) = true := by simpa using h4
  go_enter Try.func8, Try.ntmps8
  go_wp2_with (go_at_call 16; refine (awake_any _).mono ?_; rintro e w1 ⟨rfl, hb⟩)
  go_ret
  exact ⟨rfl, hb⟩

set_option maxHeartbeats 4000000 in
theorem walk_in (a b c : R) (n m : Nat) (w : World) (hn : n ≤ 1125899906842624) (hm : m ≤ 1125899906842624) :
    Calls Try.prog 8 #[.int .u32 (a.toNat : Int), .int .u32 (b.toNat : Int), .int .u32 (c.toNat : Int), .int .i64 (n : Int), .int .i64 (m : Int)] w fun e w' => e = .returned (.bool true) ∧ Below w.heap.size w w' := by
  have d1 : decide ((n : Int) < 0) = false := by simp
  have d2 : decide ((m : Int) < 0) = false := by simp
  have d3 : decide (1125899906842624 < (n : Int)) = false := by simp; omega
  have d4 : decide (1125899906842624 < (m : Int)) = false := by simp; omega
  have i1 : (n : Int) ≤ 1125899906842624 := by omega
  have i2 : (m : Int) ≤ 1125899906842624 := by omega
  have i3 : (0 : Int) ≤ (n : Int) := by omega
  have i4 : (0 : Int) ≤ (m : Int) := by omega
  obtain ⟨x, hx⟩ : ∃ x : R, x = txn (8 * n) a ^^^ b := ⟨_, rfl⟩
  obtain ⟨x2, hx2⟩ : ∃ x : R, x = txn (8 * (n + 2147483647)) a ^^^ b := ⟨_, rfl⟩
  obtain ⟨y, hy⟩ : ∃ x : R, x = txn (8 * n) a ^^^ 0#32 := ⟨_, rfl⟩
  obtain ⟨y2, hy2⟩ : ∃ x : R, x = txn (8 * m) y ^^^ 0#32 := ⟨_, rfl⟩
  obtain ⟨y3, hy3⟩ : ∃ x : R, x = txn (8 * (n + m)) a ^^^ 0#32 := ⟨_, rfl⟩
  obtain ⟨z, hz⟩ : ∃ x : R, x = txn (8 * n) (a ^^^ c) ^^^ b := ⟨_, rfl⟩
  obtain ⟨z2, hz2⟩ : ∃ x : R, x = txn (8 * n) c ^^^ 0#32 := ⟨_, rfl⟩
  have t1 : ((x.toNat : Int) != (x2.toNat : Int)) = false := ne_false (by rw [hx, hx2, far])
  have t2 : ((y2.toNat : Int) != (y3.toNat : Int)) = false := ne_false (by rw [hy2, hy3, hy, two])
  have t3 : ((z.toNat : Int) == bits .xor .u32 (x.toNat : Int) (z2.toNat : Int)) = true := by rw [bx]; exact eq_true' (by rw [hz, hx, hz2, both])
  have HX := hid hx
  have HX2 := hid hx2
  have HY := hid hy
  have HY2 := hid hy2
  have HY3 := hid hy3
  have HZ := hid hz
  have HZ2 := hid hz2
  clear hx hx2 hy hy2 hy3 hz hz2
  go_enter Try.func8, Try.ntmps8
  go_wp2_with fail
  refine (awake_any _).mono ?_
  rintro e w1 ⟨rfl, hb⟩
  go_wp2_with fail
  refine (join_any a b n _ (by omega)).mono ?_
  rintro e w2 ⟨he, rfl⟩
  rw [← HX.out] at he
  subst he
  go_wp2_with fail
  refine (join_any a b (n + 2147483647) _ (by omega)).mono ?_
  rintro e w3 ⟨he, rfl⟩
  rw [← HX2.out] at he
  subst he
  go_wp2_with fail
  refine (join_any a 0#32 n _ (by omega)).mono ?_
  rintro e w3 ⟨he, rfl⟩
  rw [← HY.out] at he
  subst he
  go_wp2_with fail
  refine (join_any y 0#32 m _ (by omega)).mono ?_
  rintro e w3 ⟨he, rfl⟩
  rw [← HY2.out] at he
  subst he
  go_wp2_with fail
  refine (join_any a 0#32 (n + m) _ (by omega)).mono ?_
  rintro e w3 ⟨he, rfl⟩
  rw [← HY3.out] at he
  subst he
  go_wp2_with fail
  rw [bx]
  refine (join_any (a ^^^ c) b n _ (by omega)).mono ?_
  rintro e w3 ⟨he, rfl⟩
  rw [← HZ.out] at he
  subst he
  go_wp2_with fail
  refine (join_any c 0#32 n _ (by omega)).mono ?_
  rintro e w3 ⟨he, rfl⟩
  rw [← HZ2.out] at he
  subst he
  go_wp2
  go_ret
  exact ⟨rfl, hb⟩

theorem walk (a b c : R) (n m : Int) (w : World) (hn : (Lit.int .i64 n).wf = true) (hm : (Lit.int .i64 m).wf = true) :
    Calls Try.prog 8 #[.int .u32 (a.toNat : Int), .int .u32 (b.toNat : Int), .int .u32 (c.toNat : Int), .int .i64 n, .int .i64 m] w fun e w' => e = .returned (.bool true) ∧ Below w.heap.size w w' := by
  by_cases h : n < 0 ∨ m < 0 ∨ 1125899906842624 < n ∨ 1125899906842624 < m
  · exact walk_out a b c n m w h
  · obtain ⟨n', rfl⟩ : ∃ N : Nat, n = (N : Int) := ⟨n.toNat, by omega⟩
    obtain ⟨m', rfl⟩ : ∃ N : Nat, m = (N : Int) := ⟨m.toNat, by omega⟩
    exact walk_in a b c n' m' w (by omega) (by omega)

theorem own : ownKnob Try.prog.godebug = none := by kernel_rfl
theorem laidOut : laidOutB Try.prog = true := by kernel_rfl

set_option maxRecDepth 100000 in
theorem lifted (os : Os) (started : os.Started) (H : Type) (enc : TypeId × Value → H) :
    ReturnsInHanded {} Try.checked os 8 .any (Rows.crcRoundSpec.pre6 enc Try.prog Try.f8 Rows.crcRoundRow.domain false) (Rows.crcRoundSpec.post enc Try.prog Try.f8 false true false false) := by
  refine returnsInHanded_of_change (C := Try.checked) own started (by kernel_rfl) Try.func8
    (ChangeSpec.witness6 (enc := enc) (C := Try.checked) false ⟨#[], #[.int .u32 0, .int .u32 0, .int .u32 0, .int .i64 0, .int .i64 0], []⟩ 8 (by kernel_rfl) (by kernel_rfl) (by kernel_rfl) (by kernel_rfl)) ?_
  intro W base args ds gs before hval0 hW hcnd _
  have hval : ∀ (j : Nat) t v, Try.f8.params[j]? = some t → args[j]? = some v → Value.okWide Try.prog W .any base t v := hval0
  have hW' := hW
  obtain ⟨p, q, hA0, hV, rfl, hfz, hnd⟩ := hW
  have hA : DataW.TrodAll enc Try.prog W 0 (fun _ => true) true Try.f8.params.toList args.toList ds p := hA0
  rw [Try.params8] at hA hval
  obtain ⟨v0, vs0, d0, ds0, p0, q0, hargs, rfl, rfl, h0, r0⟩ := trodAll_cons hA
  obtain ⟨v1, vs1, d1, ds1, p1, q1, rfl, rfl, rfl, h1, r1⟩ := trodAll_cons r0
  obtain ⟨v2, vs2, d2, ds2, p2, q2, rfl, rfl, rfl, h2, r2⟩ := trodAll_cons r1
  obtain ⟨v3, vs3, d3, ds3, p3, q3, rfl, rfl, rfl, h3, r3⟩ := trodAll_cons r2
  obtain ⟨v4, vs4, d4, ds4, p4, q4, rfl, rfl, rfl, h4, r4⟩ := trodAll_cons r3
  obtain ⟨rfl, rfl, rfl⟩ := trodAll_nil r4
  obtain rfl : args = #[v0, v1, v2, v3, v4] := by cases args; simp_all
  obtain ⟨rfl, rfl⟩ := trodVars_none hV
  obtain ⟨a0, rfl, rfl, rfl, w0⟩ := open_int Try.underlying26 (hval 0 26 v0 rfl rfl) h0
  obtain ⟨x0, rfl⟩ := open_u32 a0 w0
  obtain ⟨a1, rfl, rfl, rfl, w1⟩ := open_int Try.underlying26 (hval 1 26 v1 rfl rfl) h1
  obtain ⟨x1, rfl⟩ := open_u32 a1 w1
  obtain ⟨a2, rfl, rfl, rfl, w2⟩ := open_int Try.underlying26 (hval 2 26 v2 rfl rfl) h2
  obtain ⟨x2, rfl⟩ := open_u32 a2 w2
  obtain ⟨a3, rfl, rfl, rfl, w3⟩ := open_int Try.underlying3 (hval 3 3 v3 rfl rfl) h3
  obtain ⟨a4, rfl, rfl, rfl, w4⟩ := open_int Try.underlying3 (hval 4 3 v4 rfl rfl) h4
  clear hA0 hval0
  refine (walk x0 x1 x2 a3 a4 W w3 w4).mono fun e W' ⟨he, bel⟩ => ?_
  subst he
  exact ⟨_, rfl, _, _, _, [], _, [], hW', trodAll_mk1 (shut_bool Try.underlying4 _), (trodAll_cons_mk (shut_int Try.underlying26 w0) (trodAll_cons_mk (shut_int Try.underlying26 w1) (trodAll_cons_mk (shut_int Try.underlying26 w2) (trodAll_cons_mk (shut_int Try.underlying3 w3) (trodAll_cons_mk (shut_int Try.underlying3 w4) trodAll_mk0))))), rfl, bel.frame _, fun h => by cases h⟩

theorem over : Rows.crcRoundRow.holds Try.pinned (OpenSpec.ofChange Rows.crcRoundSpec) :=
  OpenClaim.holds_of_wide 8 Try.f8 rfl rfl rfl rfl rfl rfl rfl ⟨rfl, rfl, rfl, rfl, rfl⟩ rfl rfl rfl rfl rfl (by kernel_rfl) Try.func8 (by kernel_rfl)
    (of_decide_eq_true (by kernel_rfl)) (by unfold Func.isWrapper; first | (rw [if_pos (by decide +kernel)]; kernel_rfl) | (rw [if_neg (by decide +kernel)]; exact ⟨rfl, rfl⟩))
    (fun os started H enc _ => lifted os started H enc)

theorem proved : Rows.CrcRoundSaid := over
#print axioms proved

end Go.Proofs.Ytfakplbgheljbaa.crcRound
