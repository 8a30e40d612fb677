/- For any two texts the law LexRefused of the program returns true: what is refused stays refused, at the same place, whatever stands behind a line's end. No condition. -/
import Derived.Test.YtlggdeadkebgiaaG9
namespace Go.Proofs.Ytlggdeadkebgiaa.lexRefused
open Go.ChangeShapes Go.WideShapes Go.ChangeAt Go.RowKit
open Go.ChangeMaps (open_string shut_string)
set_option linter.unusedVariables false

set_option maxRecDepth 100000 in
set_option maxHeartbeats 4000000 in
theorem walk1 (s t : Tx) (w : World) (hs : s.length ≤ maxLen) (ht : t.length ≤ maxLen) :
    Calls Try.prog 8 #[str s, str t] w fun e w' => e = .returned (.bool true) ∧ Below w.heap.size w w' := by
  unfold maxLen at hs ht
  unfold str
  go_enter Try.func8, Try.ntmps8
  go_wp2_with fail
  refine (awake_any w).mono ?_
  rintro e w0 ⟨rfl, b0⟩
  have B0 := hid b0
  clear b0
  by_cases h1 : 2000 < s.length
  · have h1' : (2000 : Int) < (s.length : Int) := by omega
    go_wp2
    go_ret
    exact ⟨rfl, B0.out⟩
  have h1' : ¬ (2000 : Int) < (s.length : Int) := by omega
  by_cases h2 : 2000 < t.length
  · have h2' : (2000 : Int) < (t.length : Int) := by omega
    go_wp2
    go_ret
    exact ⟨rfl, B0.out⟩
  have h2' : ¬ (2000 : Int) < (t.length : Int) := by omega
  have k1 : (9223372036854775807 < s.length + 1) = False := eq_false (by omega)
  have k2 : (9223372036854775807 < s.length + 1 + t.length) = False := eq_false (by omega)
  have hcat := cat_line s t
  have hl : (s ++ 10 :: t).length ≤ 4096 := by simp; omega
  obtain ⟨l, b, hsc⟩ := scan_ex s.length s 0 (Nat.le_refl _)
  cases b with
  | some p =>
    obtain ⟨hsc2, hp⟩ := scan_refused hsc t
    have ha := hid (fun w => all_bad s w hsc (by omega))
    have hb := hid (fun w => all_bad _ w hsc2 hl)
    have hp' : (p : Int) < (s.length : Int) := by omega
    unfold str at ha hb
    clear hsc hsc2 hl hp
    generalize hS : s ++ 10 :: t = S at *
    clear hS
    go_wp2_with fail
    refine (ha.out _).mono ?_
    rintro e w1 ⟨rfl, b1⟩
    have B1 := hid (low' B0.out b1)
    go_wp2_with fail
    refine (hb.out _).mono ?_
    rintro e w2 ⟨rfl, b2⟩
    have B2 := hid (low' B1.out b2)
    go_wp2
    go_ret
    exact ⟨rfl, B2.out⟩
  | none =>
    have ha := hid (fun w => all_ok s w hsc (by omega))
    unfold str at ha
    obtain ⟨m, b, hsc2⟩ := scan_ex (s ++ 10 :: t).length (s ++ 10 :: t) 0 (Nat.le_refl _)
    cases b with
    | some q =>
      have hb := hid (fun w => all_bad _ w hsc2 hl)
      unfold str at hb
      clear hsc hsc2 hl
      generalize hS : s ++ 10 :: t = S at *
      clear hS
      go_wp2_with fail
      refine (ha.out _).mono ?_
      rintro e w1 ⟨a1, c1, rfl, _, b1⟩
      have B1 := hid (low' B0.out b1)
      go_wp2_with fail
      refine (hb.out _).mono ?_
      rintro e w2 ⟨rfl, b2⟩
      have B2 := hid (low' B1.out b2)
      go_wp2
      go_ret
      exact ⟨rfl, B2.out⟩
    | none =>
      have hb := hid (fun w => all_ok _ w hsc2 hl)
      unfold str at hb
      clear hsc hsc2 hl
      generalize hS : s ++ 10 :: t = S at *
      clear hS
      go_wp2_with fail
      refine (ha.out _).mono ?_
      rintro e w1 ⟨a1, c1, rfl, _, b1⟩
      have B1 := hid (low' B0.out b1)
      go_wp2_with fail
      refine (hb.out _).mono ?_
      rintro e w2 ⟨a2, c2, rfl, _, b2⟩
      have B2 := hid (low' B1.out b2)
      go_wp2
      go_ret
      exact ⟨rfl, B2.out⟩
theorem walk (s t : ByteArray) (w : World) (hs : s.size ≤ maxLen) (ht : t.size ≤ maxLen) :
    Calls Try.prog 8 #[.string s, .string t] w fun e w' => e = .returned (.bool true) ∧ Below w.heap.size w w' := by
  rw [str_of s, str_of t]
  exact walk1 _ _ w hs ht

theorem own : ownKnob Try.prog.godebug = none := by kernel_rfl
theorem laidOut : laidOutB Try.prog = true := by kernel_rfl

set_option maxRecDepth 100000 in
theorem lifted (os : Os) (started : os.Started) (H : Type) (enc : TypeId × Value → H) :
    ReturnsInHanded {} Try.checked os 8 .any (Rows.lexRefusedSpec.pre6 enc Try.prog Try.f8 Rows.lexRefusedRow.domain false) (Rows.lexRefusedSpec.post enc Try.prog Try.f8 false true false false) := by
  refine returnsInHanded_of_change (C := Try.checked) own started (by kernel_rfl) Try.func8
    (ChangeSpec.witness6 (enc := enc) (C := Try.checked) false ⟨#[], #[.string ⟨#[]⟩, .string ⟨#[]⟩], []⟩ 8 (by kernel_rfl) (by kernel_rfl) (by kernel_rfl) (by kernel_rfl)) ?_
  intro W base args ds gs before hval0 hW hcnd _
  have hval : ∀ (j : Nat) t v, Try.f8.params[j]? = some t → args[j]? = some v → Value.okWide Try.prog W .any base t v := hval0
  have hW' := hW
  obtain ⟨p, q, hA0, hV, rfl, hfz, hnd⟩ := hW
  have hA : DataW.TrodAll enc Try.prog W 0 (fun _ => true) true Try.f8.params.toList args.toList ds p := hA0
  rw [Try.params8] at hA hval
  obtain ⟨v0, vs0, d0, ds0, p0, q0, hargs, rfl, rfl, h0, r0⟩ := trodAll_cons hA
  obtain ⟨v1, vs1, d1, ds1, p1, q1, rfl, rfl, rfl, h1, r1⟩ := trodAll_cons r0
  obtain ⟨rfl, rfl, rfl⟩ := trodAll_nil r1
  obtain rfl : args = #[v0, v1] := by cases args; simp_all
  obtain ⟨rfl, rfl⟩ := trodVars_none hV
  obtain ⟨a0, rfl, rfl, rfl, w0⟩ := open_string Try.underlying9 (hval 0 9 v0 rfl rfl) h0
  obtain ⟨a1, rfl, rfl, rfl, w1⟩ := open_string Try.underlying9 (hval 1 9 v1 rfl rfl) h1
  clear hA0 hval0
  refine (walk a0 a1 W w0 w1).mono fun e W' ⟨he, bel⟩ => ?_
  subst he
  exact ⟨_, rfl, _, _, _, [], _, [], hW', trodAll_mk1 (shut_bool Try.underlying4 _), (trodAll_cons_mk (shut_string Try.underlying9 w0) (trodAll_cons_mk (shut_string Try.underlying9 w1) trodAll_mk0)), rfl, bel.frame _, fun h => by cases h⟩

theorem over : Rows.lexRefusedRow.holds Try.pinned (OpenSpec.ofChange Rows.lexRefusedSpec) :=
  OpenClaim.holds_of_wide 8 Try.f8 rfl rfl rfl rfl rfl rfl rfl ⟨rfl, rfl, rfl, rfl, rfl⟩ rfl rfl rfl rfl rfl (by kernel_rfl) Try.func8 (by kernel_rfl)
    (of_decide_eq_true (by kernel_rfl)) (by unfold Func.isWrapper; first | (rw [if_pos (by decide +kernel)]; kernel_rfl) | (rw [if_neg (by decide +kernel)]; exact ⟨rfl, rfl⟩))
    (fun os started H enc _ => lifted os started H enc)

theorem proved : Rows.LexRefusedSaid := over
#print axioms proved

end Go.Proofs.Ytlggdeadkebgiaa.lexRefused
