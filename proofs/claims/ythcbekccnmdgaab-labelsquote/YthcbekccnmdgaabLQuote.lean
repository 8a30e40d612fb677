/- For any name and value the law LabelsQuote of the program returns true: a value in quotes, as the one label of a text, is read as that value, if it may be, and is refused, if it may not. No condition. -/
import Derived.Test.YthcbekccnmdgaabG
import Derived.Test.YthcbekccnmdgaabAw
import Derived.Deep.RegionHeld3
namespace Go.Proofs.Ythcbekccnmdgaab.labelsQuote
open Go.ChangeShapes Go.WideShapes Go.ChangeAt Go.RowKit
open Go.ChangeMaps (open_string shut_string)
set_option linter.unusedVariables false

theorem one_parse {n x : Tx} (hn : mayN n = true) : parseP (123 :: (n ++ 61 :: (quote x ++ [125]))) = if mayV x = true then some ([(n, x)], []) else none := by
  cases n with
  | nil => exact absurd hn (by decide)
  | cons c n =>
    have hc : c ≠ 125 := by rintro rfl; exact absurd (mayN_head hn) (by decide)
    rw [List.cons_append, parse_cons, if_neg hc]
    have ht : takeL (c :: (n ++ 61 :: (quote x ++ [125]))) = some (((c :: n), x), [125]) := by
      have := takeL_item (x := (c :: n, x)) [125] (mayN_no61 hn)
      simpa [item] using this
    by_cases hx : mayV x = true
    · rw [if_pos hx]
      have hm : mayL ([] ++ [(c :: n, x)]) = true := by
        unfold mayL mayE
        simp [hn, hx, rises]
      rw [step_on ht hm, if_neg (by decide), if_pos rfl]
      rfl
    · rw [if_neg hx]
      refine step_may ht ?_
      cases hm : mayL ([] ++ [(c :: n, x)])
      · rfl
      · exact absurd (mayL_mem hm (x := (c :: n, x)) (by simp)).2 hx
set_option maxHeartbeats 4000000 in
theorem walk1 (n x : Tx) (w : World) (hn : n.length ≤ maxLen) (hx : x.length ≤ maxLen) :
    Calls Try.prog 3 #[str n, str x] w fun e w' => e = .returned (.bool true) ∧ Below w.heap.size w w' := by
  unfold maxLen at hn hx
  unfold str
  go_enter Try.func3, Try.ntmps3
  go_wp2_with fail
  refine (awake_any w).mono ?_
  rintro e w0 ⟨rfl, b0⟩
  have B0 := hid b0
  clear b0
  by_cases hx5 : 1000 < x.length
  · have hx5' : decide (1000 < (x.length : Int)) = true := by simp; omega
    have hx5'' : decide (1000 < x.length) = true := by simp; omega
    go_wp2
    go_ret
    exact ⟨rfl, B0.out⟩
  have hx5' : decide (1000 < (x.length : Int)) = false := by simp; omega
  have hx5'' : decide (1000 < x.length) = false := by simp; omega
  go_wp2_with fail
  refine (mayName_any n _ (by omega)).mono ?_
  rintro e w1 ⟨rfl, hw1⟩
  subst hw1
  cases hmn : mayN n with
  | false =>
    clear hmn
    go_wp2
    go_ret
    exact ⟨rfl, B0.out⟩
  | true =>
    have hnl := mayN_len hmn
    have hpar := hid (one_parse (x := x) hmn)
    have hql := quote_len x
    clear hmn
    have k1 : (9223372036854775807 < 1 + n.length) = False := eq_false (by omega)
    have k1' : (9223372036854775807 < n.length + 1) = False := eq_false (by omega)
    have k2 : (9223372036854775807 < 1 + n.length + 1) = False := eq_false (by omega)
    have k2' : (9223372036854775807 < n.length + 1 + 1) = False := eq_false (by omega)
    have k3 : (9223372036854775807 < 1 + n.length + 1 + (quote x).length) = False := eq_false (by omega)
    have k3' : (9223372036854775807 < n.length + 1 + 1 + (quote x).length) = False := eq_false (by omega)
    have k4 : (9223372036854775807 < 1 + n.length + 1 + (quote x).length + 1) = False := eq_false (by omega)
    have k4' : (9223372036854775807 < n.length + 1 + 1 + (quote x).length + 1) = False := eq_false (by omega)
    have hcat : (⟨#[123]⟩ : ByteArray) ++ ⟨n.toArray⟩ ++ ⟨#[61]⟩ ++ ⟨(quote x).toArray⟩ ++ ⟨#[125]⟩ = ⟨(123 :: (n ++ 61 :: (quote x ++ [125])) : Tx).toArray⟩ := by
      rw [show (⟨#[123]⟩ : ByteArray) = ⟨([123] : Tx).toArray⟩ from rfl, show (⟨#[61]⟩ : ByteArray) = ⟨([61] : Tx).toArray⟩ from rfl, show (⟨#[125]⟩ : ByteArray) = ⟨([125] : Tx).toArray⟩ from rfl, app_str, app_str, app_str, app_str]
      simp
    have hsl : (123 :: (n ++ 61 :: (quote x ++ [125])) : Tx).length ≤ 35184372088832 := by simp; omega
    generalize hS : (123 :: (n ++ 61 :: (quote x ++ [125])) : Tx) = S at *
    clear hS
    go_wp2_with fail
    refine (quote_any x _ (by omega)).mono ?_
    rintro e w2 ⟨rfl, b2⟩
    have B2 := hid (low' B0.out b2)
    clear b2 B0
    unfold str
    have hmx := hid (fun w => mayValue_any x w (by omega))
    cases hmv : mayV x with
    | true =>
      have hpar2 := hpar.out
      rw [if_pos hmv] at hpar2
      rw [hmv] at hmx
      have hpc := hid (parse_yes (w := w2) hsl hpar2)
      clear hpar hpar2 hmv hsl
      unfold str at hpc hmx
      go_wp2_with fail
      refine hpc.out.mono ?_
      rintro e w3 ⟨a3, c3, rfl, o3, b3⟩
      have B3 := hid (low' B2.out b3)
      obtain ⟨-, g3, f3, rfl, q0, q1⟩ := IsLs.one o3.isL
      clear o3 b3
      unfold str at q0 q1
      simp only at q0 q1
      go_wp2_with (go_at_call 10; refine (hmx.out _).mono ?_; rintro e w' ⟨rfl, hw'⟩; have hw2 := hw'.symm; subst hw2)
      go_ret
      exact ⟨rfl, B3.out⟩
    | false =>
      have hpar2 := hpar.out
      rw [if_neg (by rw [hmv]; simp)] at hpar2
      rw [hmv] at hmx
      have hpc := hid (parse_not (w := w2) hsl hpar2)
      clear hpar hpar2 hmv hsl
      unfold str at hpc hmx
      go_wp2_with fail
      refine hpc.out.mono ?_
      rintro e w3 ⟨rfl, b3⟩
      have B3 := hid (low' B2.out b3)
      go_wp2_with (go_at_call 10; refine (hmx.out _).mono ?_; rintro e w' ⟨rfl, hw'⟩; have hw2 := hw'.symm; subst hw2)
      go_ret
      exact ⟨rfl, B3.out⟩
theorem walk (n x : ByteArray) (w : World) (hn : n.size ≤ maxLen) (hx : x.size ≤ maxLen) :
    Calls Try.prog 3 #[.string n, .string x] w fun e w' => e = .returned (.bool true) ∧ Below w.heap.size w w' := by
  rw [str_of n, str_of x]
  exact walk1 _ _ w hn hx

theorem own : ownKnob Try.prog.godebug = none := by kernel_rfl
theorem laidOut : laidOutB Try.prog = true := by kernel_rfl

set_option maxRecDepth 100000 in
theorem lifted (os : Os) (started : os.Started) (H : Type) (enc : TypeId × Value → H) :
    ReturnsInHanded {} Try.checked os 3 .any (Rows.labelsQuoteSpec.pre6 enc Try.prog Try.f3 Rows.labelsQuoteRow.domain false) (Rows.labelsQuoteSpec.post enc Try.prog Try.f3 false true false false) := by
  refine returnsInHanded_of_change (C := Try.checked) own started (by kernel_rfl) Try.func3
    (ChangeSpec.witness6 (enc := enc) (C := Try.checked) false ⟨#[], #[.string ⟨#[]⟩, .string ⟨#[]⟩], []⟩ 8 (by kernel_rfl) (by kernel_rfl) (by kernel_rfl) (by kernel_rfl)) ?_
  intro W base args ds gs before hval0 hW hcnd _
  have hval : ∀ (j : Nat) t v, Try.f3.params[j]? = some t → args[j]? = some v → Value.okWide Try.prog W .any base t v := hval0
  have hW' := hW
  obtain ⟨p, q, hA0, hV, rfl, hfz, hnd⟩ := hW
  have hA : DataW.TrodAll enc Try.prog W 0 (fun _ => true) true Try.f3.params.toList args.toList ds p := hA0
  rw [Try.params3] at hA hval
  obtain ⟨v0, vs0, d0, ds0, p0, q0, hargs, rfl, rfl, h0, r0⟩ := trodAll_cons hA
  obtain ⟨v1, vs1, d1, ds1, p1, q1, rfl, rfl, rfl, h1, r1⟩ := trodAll_cons r0
  obtain ⟨rfl, rfl, rfl⟩ := trodAll_nil r1
  obtain rfl : args = #[v0, v1] := by cases args; simp_all
  obtain ⟨rfl, rfl⟩ := trodVars_none hV
  obtain ⟨a0, rfl, rfl, rfl, w0⟩ := open_string Try.underlying9 (hval 0 9 v0 rfl rfl) h0
  obtain ⟨a1, rfl, rfl, rfl, w1⟩ := open_string Try.underlying9 (hval 1 9 v1 rfl rfl) h1
  clear hA0 hval0
  refine (walk a0 a1 W w0 w1).mono fun e W' ⟨he, bel⟩ => ?_
  subst he
  exact ⟨_, rfl, _, _, _, [], _, [], hW', trodAll_mk1 (shut_bool Try.underlying4 _), (trodAll_cons_mk (shut_string Try.underlying9 w0) (trodAll_cons_mk (shut_string Try.underlying9 w1) trodAll_mk0)), rfl, bel.frame _, fun h => by cases h⟩

theorem over : Rows.labelsQuoteRow.holds Try.pinned (OpenSpec.ofChange Rows.labelsQuoteSpec) :=
  OpenClaim.holds_of_wide 3 Try.f3 rfl rfl rfl rfl rfl rfl rfl ⟨rfl, rfl, rfl, rfl, rfl⟩ rfl rfl rfl rfl rfl (by kernel_rfl) Try.func3 (by kernel_rfl)
    (of_decide_eq_true (by kernel_rfl)) (by unfold Func.isWrapper; first | (rw [if_pos (by decide +kernel)]; kernel_rfl) | (rw [if_neg (by decide +kernel)]; exact ⟨rfl, rfl⟩))
    (fun os started H enc _ => lifted os started H enc)

theorem proved : Rows.LabelsQuoteSaid := over
#print axioms proved

end Go.Proofs.Ythcbekccnmdgaab.labelsQuote
