/- For any matchers, whatever stands behind, and any text the law MatchBack of the program returns true and leaves them as they were: matchers that may be, written and read again, are the same, with what stands behind, and what is read is written as it was. No condition. -/
import Derived.Test.YthbdghbfhjimkaaG8
import Derived.Test.YthbdghbfhjimkaaA8
import Derived.Test.YthbdghbfhjimkaaX1
import Derived.Deep.RegionHeld3
namespace Go.Proofs.Ythbdghbfhjimkaa.matchBack
open Go.ChangeShapes Go.WideShapes Go.ChangeAt Go.RowKit
open Go.ChangeMaps (open_string shut_string)
set_option linter.unusedVariables false

set_option maxRecDepth 100000 in
set_option maxHeartbeats 2000000 in
theorem walk1 (v0 : Value) (l : List Mt) (t s : Tx) (w : World) (h0 : IsMs w v0 l) (ht : t.length ≤ maxLen) (hs : s.length ≤ maxLen) :
    Calls Try.prog 5 #[v0, str t, str s] w fun e w' => e = .returned (.bool true) ∧ Below w.heap.size w w' := by
  obtain ⟨a0, c0, rfl⟩ := h0.slice
  have hb := h0.bound
  replace h0 := hid h0
  unfold maxLen at ht hs
  unfold str
  go_enter Try.func5, Try.ntmps5
  go_wp2_with fail
  refine (awake_any w).mono ?_
  rintro e w0 ⟨rfl, b0⟩
  have B0 := hid b0
  clear b0
  go_wp2_with fail
  refine (great_any _ _ l [] w0 (h0.out.below B0.out) (ownL_nil 0 _).isL).mono ?_
  rintro e w1 ⟨r1, rfl, hf, q1, rfl⟩
  have B1 := hid (below_drewN (n := q1) B0.out)
  generalize w0.drewN q1 = w1 at *
  clear B0
  cases r1 with
  | true =>
    clear hf
    go_wp2
    go_ret
    exact ⟨rfl, B1.out⟩
  | false =>
    replace hf := hid (hf rfl)
    by_cases ht5 : 5000 < t.length
    · have hn5' : decide (5000 < (t.length : Int)) = true := by simp; omega
      have hn5'' : decide (5000 < t.length) = true := by simp; omega
      go_wp2
      go_ret
      exact ⟨rfl, B1.out⟩
    have ht5' : decide (5000 < (t.length : Int)) = false := by simp; omega
    have ht5'' : decide (5000 < t.length) = false := by simp; omega
    by_cases hs5 : 5000 < s.length
    · have hn5' : decide (5000 < (s.length : Int)) = true := by simp; omega
      have hn5'' : decide (5000 < s.length) = true := by simp; omega
      go_wp2
      go_ret
      exact ⟨rfl, B1.out⟩
    have hs5' : decide (5000 < (s.length : Int)) = false := by simp; omega
    have hs5'' : decide (5000 < s.length) = false := by simp; omega
    have hpl := hf.out.print
    have hl100 := hf.out.1
    go_wp2_with fail
    refine (mprint_any _ l w1 (h0.out.below B1.out) (by omega) (by omega)).mono ?_
    rintro e w2 ⟨rfl, b2⟩
    have B2 := hid (low' B1.out b2)
    clear b2 B1
    unfold str
    have k1 : (9223372036854775807 < (printM l).length + t.length) = False := eq_false (by omega)
    have hcat : (⟨(printM l).toArray⟩ : ByteArray) ++ ⟨t.toArray⟩ = ⟨(printM l ++ t).toArray⟩ := app_str _ _
    have hal : (printM l ++ t).length ≤ 4000000000 := by rw [List.length_append]; omega
    have hrt := hid (fun (h : mayM l = true) => parseM_back t h)
    generalize printM l ++ t = u at *
    clear hpl
    go_wp2_with fail
    refine (mparse_any u w2 hal).mono ?_
    rintro e w3 ⟨b3, hp⟩
    have B3 := hid (low' B2.out b3)
    clear b3 B2 k1 hcat
    cases hm : mayM l with
    | true =>
      rw [hrt.out hm] at hp
      obtain ⟨v3, rfl, o3⟩ := hp
      obtain ⟨a3, c3, rfl⟩ := o3.slice
      replace o3 := hid o3
      go_wp2_with fail
      refine (mmay_any _ l w3 (h0.out.below B3.out)).mono ?_
      rintro e w4 ⟨rfl, b4⟩
      rw [hm]
      have B4 := hid (low' B3.out b4)
      have o4 := hid (o3.out.below b4)
      clear b4 B3 o3
      go_wp2_with fail
      refine (sameM_any _ _ l l w4 (h0.out.below B4.out) o4.out.isM).mono ?_
      rintro e w5 ⟨rfl, q5, rfl⟩
      have B5 := hid (below_drewN (n := q5) B4.out)
      generalize w4.drewN q5 = w5 at *
      clear B4 o4
      have hll : (l == l) = true := by simp
      have htt : (t == t) = true := by simp
      rw [hll]
      go_wp2_with fail
      refine (mparse_any s w5 (by omega)).mono ?_
      rintro e w8 ⟨b8, hp8⟩
      have B8 := hid (low' B5.out b8)
      clear b8 B5
      cases hps : parseM s with
      | none =>
        rw [hps] at hp8
        subst hp8
        go_wp2
        go_ret
        exact ⟨rfl, B8.out⟩
      | some qq =>
        obtain ⟨m, r⟩ := qq
        rw [hps] at hp8
        obtain ⟨v8, rfl, o8⟩ := hp8
        obtain ⟨a8, c8, rfl⟩ := o8.slice
        replace o8 := hid o8
        obtain ⟨hmm, hsp⟩ := parseM_inv hps
        have hml := mayM_len hmm
        have hsl : (printM m).length + r.length = s.length := by rw [hsp, List.length_append]
        have k1 : (9223372036854775807 < (printM m).length + r.length) = False := eq_false (by omega)
        have hcat : (⟨(printM m).toArray⟩ : ByteArray) ++ ⟨r.toArray⟩ = ⟨s.toArray⟩ := by rw [app_str, ← hsp]
        have hss : (s == s) = true := by simp
        clear hps hsp
        go_wp2_with fail
        refine (mmay_any _ m w8 o8.out.isM).mono ?_
        rintro e w9 ⟨rfl, b9⟩
        rw [hmm]
        have B9 := hid (low' B8.out b9)
        have o9 := hid (o8.out.below b9)
        clear b9 B8 o8
        go_wp2_with fail
        refine (mprint_any _ m w9 o9.out.isM (by omega) (by omega)).mono ?_
        rintro e w10 ⟨rfl, b10⟩
        have B10 := hid (low' B9.out b10)
        clear b10 B9 o9 hmm
        unfold str
        generalize printM m = pm at *
        go_wp2
        go_ret
        exact ⟨rfl, B10.out⟩
    | false =>
      have hsome : ∃ x y z, e = .returned (.tuple #[x, .string ⟨y⟩, .int .i64 z]) := by
        cases hq : parseM u with
        | none => rw [hq] at hp; exact ⟨_, _, _, hp⟩
        | some q => rw [hq] at hp; obtain ⟨l', t'⟩ := q; obtain ⟨v, he, _⟩ := hp; exact ⟨_, _, _, he⟩
      clear hp
      obtain ⟨x, y, z, rfl⟩ := hsome
      go_wp2_with fail
      refine (mmay_any _ l w3 (h0.out.below B3.out)).mono ?_
      rintro e w4 ⟨rfl, b4⟩
      rw [hm]
      have B4 := hid (low' B3.out b4)
      clear b4 B3
      go_wp2_with fail
      refine (mparse_any s w4 (by omega)).mono ?_
      rintro e w8 ⟨b8, hp8⟩
      have B8 := hid (low' B4.out b8)
      clear b8 B4
      cases hps : parseM s with
      | none =>
        rw [hps] at hp8
        subst hp8
        go_wp2
        go_ret
        exact ⟨rfl, B8.out⟩
      | some qq =>
        obtain ⟨m, r⟩ := qq
        rw [hps] at hp8
        obtain ⟨v8, rfl, o8⟩ := hp8
        obtain ⟨a8, c8, rfl⟩ := o8.slice
        replace o8 := hid o8
        obtain ⟨hmm, hsp⟩ := parseM_inv hps
        have hml := mayM_len hmm
        have hsl : (printM m).length + r.length = s.length := by rw [hsp, List.length_append]
        have k1 : (9223372036854775807 < (printM m).length + r.length) = False := eq_false (by omega)
        have hcat : (⟨(printM m).toArray⟩ : ByteArray) ++ ⟨r.toArray⟩ = ⟨s.toArray⟩ := by rw [app_str, ← hsp]
        have hss : (s == s) = true := by simp
        clear hps hsp
        go_wp2_with fail
        refine (mmay_any _ m w8 o8.out.isM).mono ?_
        rintro e w9 ⟨rfl, b9⟩
        rw [hmm]
        have B9 := hid (low' B8.out b9)
        have o9 := hid (o8.out.below b9)
        clear b9 B8 o8
        go_wp2_with fail
        refine (mprint_any _ m w9 o9.out.isM (by omega) (by omega)).mono ?_
        rintro e w10 ⟨rfl, b10⟩
        have B10 := hid (low' B9.out b10)
        clear b10 B9 o9 hmm
        unfold str
        generalize printM m = pm at *
        go_wp2
        go_ret
        exact ⟨rfl, B10.out⟩
theorem walk (v0 : Value) (l : List Mt) (t s : ByteArray) (w : World) (h0 : IsMs w v0 l) (ht : t.size ≤ maxLen) (hs : s.size ≤ maxLen) :
    Calls Try.prog 5 #[v0, .string t, .string s] w fun e w' => e = .returned (.bool true) ∧ Below w.heap.size w w' := by
  rw [str_of t, str_of s]
  exact walk1 v0 l _ _ w h0 ht hs

theorem own : ownKnob Try.prog.godebug = none := by kernel_rfl
theorem laidOut : laidOutB Try.prog = true := by kernel_rfl

set_option maxRecDepth 100000 in
theorem lifted (os : Os) (started : os.Started) (H : Type) (enc : TypeId × Value → H) :
    ReturnsInHanded {} Try.checked os 5 .any (Rows.matchBackSpec.pre6 enc Try.prog Try.f5 Rows.matchBackRow.domain false) (Rows.matchBackSpec.post enc Try.prog Try.f5 false true false false) := by
  refine returnsInHanded_of_change (C := Try.checked) own started (by kernel_rfl) Try.func5
    (ChangeSpec.witness6 (enc := enc) (C := Try.checked) false ⟨#[], #[.slice none 0 0, .string ⟨#[]⟩, .string ⟨#[]⟩], []⟩ 8 (by kernel_rfl) (by kernel_rfl) (by kernel_rfl) (by kernel_rfl)) ?_
  intro W base args ds gs before hval0 hW hcnd _
  have hval : ∀ (j : Nat) t v, Try.f5.params[j]? = some t → args[j]? = some v → Value.okWide Try.prog W .any base t v := hval0
  have hW' := hW
  obtain ⟨p, q, hA0, hV, rfl, hfz, hnd⟩ := hW
  have hA : DataW.TrodAll enc Try.prog W 0 (fun _ => true) true Try.f5.params.toList args.toList ds p := hA0
  rw [Try.params5] at hA hval
  obtain ⟨v0, vs0, d0, ds0, p0, q0, hargs, rfl, rfl, h0, r0⟩ := trodAll_cons hA
  obtain ⟨v1, vs1, d1, ds1, p1, q1, rfl, rfl, rfl, h1, r1⟩ := trodAll_cons r0
  obtain ⟨v2, vs2, d2, ds2, p2, q2, rfl, rfl, rfl, h2, r2⟩ := trodAll_cons r1
  obtain ⟨rfl, rfl, rfl⟩ := trodAll_nil r2
  obtain rfl : args = #[v0, v1, v2] := by cases args; simp_all
  obtain ⟨rfl, rfl⟩ := trodVars_none hV
  have k0 := h0
  have lt0 : ∀ x ∈ p0, x.block < W.heap.size := by obtain ⟨m, hm⟩ := k0; exact DataW.trod_lt m _ _ _ hm
  obtain ⟨l0, w0⟩ := open_mats (hval 0 22 v0 rfl rfl) h0
  obtain ⟨a1, rfl, rfl, rfl, w1⟩ := open_string Try.underlying9 (hval 1 9 v1 rfl rfl) h1
  obtain ⟨a2, rfl, rfl, rfl, w2⟩ := open_string Try.underlying9 (hval 2 9 v2 rfl rfl) h2
  clear hA0 hval0
  refine (walk v0 l0 a1 a2 W w0 w1 w2).mono fun e W' ⟨he, bel⟩ => ?_
  subst he
  exact ⟨_, rfl, _, _, _, [], _, [], hW', trodAll_mk1 (shut_bool Try.underlying4 _), (trodAll_cons_mk (Below.trod laidOut (by kernel_rfl) (of_decide_eq_true (by kernel_rfl)) k0 bel lt0) (trodAll_cons_mk (shut_string Try.underlying9 w1) (trodAll_cons_mk (shut_string Try.underlying9 w2) trodAll_mk0))), rfl, bel.frame _, fun h => by cases h⟩

theorem over : Rows.matchBackRow.holds Try.pinned (OpenSpec.ofChange Rows.matchBackSpec) :=
  OpenClaim.holds_of_wide 5 Try.f5 rfl rfl rfl rfl rfl rfl rfl ⟨rfl, rfl, rfl, rfl, rfl⟩ rfl rfl rfl rfl rfl (by kernel_rfl) Try.func5 (by kernel_rfl)
    (of_decide_eq_true (by kernel_rfl)) (by unfold Func.isWrapper; first | (rw [if_pos (by decide +kernel)]; kernel_rfl) | (rw [if_neg (by decide +kernel)]; exact ⟨rfl, rfl⟩))
    (fun os started H enc _ => lifted os started H enc)

theorem proved : Rows.MatchBackSaid := over
#print axioms proved

end Go.Proofs.Ythbdghbfhjimkaa.matchBack
