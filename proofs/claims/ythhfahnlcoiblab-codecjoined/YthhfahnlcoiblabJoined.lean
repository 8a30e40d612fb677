/- For any two slices of values the law CodecJoined of the program returns true and leaves them as they were: two scripts of values, written one behind the other, have the bytes of both. No condition. -/
import Derived.Test.YthhfahnlcoiblabOp2
namespace Go.Proofs.Ythhfahnlcoiblab.codecJoined
open Go.ChangeShapes Go.WideShapes Go.ChangeAt Go.RowKit
set_option linter.unusedVariables false

set_option maxHeartbeats 4000000 in
theorem walk (v0 : Value) (l : List Vl) (v1 : Value) (m : List Vl) (w : World) (h0 : IsVs w v0 l) (h1 : IsVs w v1 m) :
    Calls Try.prog 3 #[v0, v1] w fun e w' => e = .returned (.bool true) ∧ Below w.heap.size w w' := by
  obtain ⟨a0, c0, rfl⟩ := h0.slice
  obtain ⟨a1, c1, rfl⟩ := h1.slice
  replace h0 := hid h0
  replace h1 := hid h1
  go_enter Try.func3, Try.ntmps3
  go_wp2_with fail
  refine (awake_any w).mono ?_
  rintro e w1 ⟨rfl, b1⟩
  have B1 := hid b1
  clear b1
  go_wp2_with fail
  refine (great_any _ l w1 (h0.out.below B1.out)).mono ?_
  rintro e w2 ⟨r1, rfl, hf1, q1, rfl⟩
  have B2 := hid (below_drewN (n := q1) B1.out)
  clear B1
  generalize w1.drewN q1 = w2 at *
  cases r1 with
  | true =>
    clear hf1
    go_wp2
    go_ret
    exact ⟨rfl, B2.out⟩
  | false =>
    replace hf1 := hid (hf1 rfl)
    go_wp2_with fail
    refine (great_any _ m w2 (h1.out.below B2.out)).mono ?_
    rintro e w3 ⟨r2, rfl, hf2, q2, rfl⟩
    have B3 := hid (below_drewN (n := q2) B2.out)
    clear B2
    generalize w2.drewN q2 = w3 at *
    cases r2 with
    | true =>
      clear hf2
      go_wp2
      go_ret
      exact ⟨rfl, B3.out⟩
    | false =>
      replace hf2 := hid (hf2 rfl)
      have hl3 : l.length ≤ 300 := hf1.out.1
      have hm3 : m.length ≤ 300 := hf2.out.1
      replace h0 := hid (h0.out.below B3.out)
      replace h1 := hid (h1.out.below B3.out)
      go_wp2_with fail
      refine (m_new (Many.nil w3)).mono ?_
      rintro e w4 ⟨pa, rfl, m4⟩
      replace m4 := hid m4
      go_wp2_with fail
      refine (m_new m4.out).mono ?_
      rintro e w5 ⟨pb, rfl, m5⟩
      replace m5 := hid m5
      clear m4
      go_wp2_with fail
      refine (m_new m5.out).mono ?_
      rintro e w6 ⟨pc, rfl, m6⟩
      have m7 : Many w3.heap.size w3 w6 [.wr pa [], .wr pb [], .wr pc []] := m6
      replace m7 := hid m7
      clear m5 m6
      go_wp2
      go_loopw [8] (fun iv wr => ∃ k : Nat, k ≤ l.length ∧ iv = .int .i64 (k : Int) ∧ (forms l k).length ≤ 20010 * k ∧ Many w3.heap.size w3 wr [.wr pa (forms l k), .wr pb [], .wr pc (forms l k)]) (fun iv _ => l.length - (intOf iv).toNat)
      case atStart => exact ⟨0, by omega, rfl, by simp [forms], m7.out⟩
      case round =>
        clear m7
        obtain ⟨k, hk, rfl, hfl, mk⟩ := hrel
        by_cases hlt : k < l.length
        · have hlt' : (k : Int) < (l.length : Int) := by omega
          obtain ⟨b, off, va, vc, rfl, hok, hsl, hB0, hq⟩ := h0.out.get k hlt
          have hs := form_short hf1.out hlt hok
          have hat := hf1.out.at k hlt
          have hfs := hid (forms_succ l k hlt)
          have hq' := hid hq
          obtain ⟨q0, q1, q2, q3, q4, q5, q6⟩ := hq wr mk.low
          have w1c := hid (m_write mk 0 rfl l[k] _ hok rfl hB0 (by omega) (by omega) (by omega))
          have w2c := hid (fun w' (mm : Many w3.heap.size w3 w' [.wr pa (forms l k ++ form l[k]), .wr pb [], .wr pc (forms l k)]) => m_write mm 2 rfl l[k] _ hok rfl hB0 (by omega) (by omega) (by omega))
          unfold agg str at w1c w2c
          clear hok hB0 hsl hq mk
          generalize l[k] = x at *
          go_wp2_with fail
          refine w1c.out.mono ?_
          rintro e w8 ⟨rfl, m8⟩
          clear q0 q1 q2 q3 q4 q5 q6 w1c
          have m8' : Many w3.heap.size w3 w8 [.wr pa (forms l k ++ form x), .wr pb [], .wr pc (forms l k)] := m8
          obtain ⟨q0, q1, q2, q3, q4, q5, q6⟩ := hq'.out w8 m8'.low
          have w2d := hid (w2c.out w8 m8')
          clear m8 m8' w2c hq'
          go_wp2_with fail
          refine w2d.out.mono ?_
          rintro e w9 ⟨rfl, m9⟩
          have m9' : Many w3.heap.size w3 w9 [.wr pa (forms l (k + 1)), .wr pb [], .wr pc (forms l (k + 1))] := by rw [hfs.out]; exact m9
          have hlen : (forms l (k + 1)).length ≤ 20010 * (k + 1) := by rw [hfs.out]; simp; omega
          replace m9' := hid m9'
          clear q0 q1 q2 q3 q4 q5 q6 w2d m9 hfs
          go_wp2
          go_roundw
          case rel => exact ⟨k + 1, by omega, by go_num, hlen, m9'.out⟩
          case measure => simp [intOf]; omega
        · have hlt' : ¬ (k : Int) < (l.length : Int) := by omega
          obtain rfl : k = l.length := by omega
          clear hlt
          generalize hA : forms l l.length = A at *
          have hAl : A.length ≤ 6003000 := by omega
          clear hfl hk hA
          replace mk := hid mk
          go_wp2
          go_loopw [9] (fun iv wx => ∃ k : Nat, k ≤ m.length ∧ iv = .int .i64 (k : Int) ∧ (forms m k).length ≤ 20010 * k ∧ Many w3.heap.size w3 wx [.wr pa A, .wr pb (forms m k), .wr pc (A ++ forms m k)]) (fun iv _ => m.length - (intOf iv).toNat)
          case atStart => exact ⟨0, by omega, rfl, by simp [forms], by simpa [forms] using mk.out⟩
          case round =>
            clear mk
            obtain ⟨k, hk, rfl, hfl, mk⟩ := hrel
            by_cases hlt : k < m.length
            · have hlt'' : (k : Int) < (m.length : Int) := by omega
              obtain ⟨b, off, va, vc, rfl, hok, hsl, hB0, hq⟩ := h1.out.get k hlt
              have hs := form_short hf2.out hlt hok
              have hat := hf2.out.at k hlt
              have hfs := hid (forms_succ m k hlt)
              have hq' := hid hq
              obtain ⟨q0, q1, q2, q3, q4, q5, q6⟩ := hq _ mk.low
              have w1c := hid (m_write mk 1 rfl m[k] _ hok rfl hB0 (by omega) (by omega) (by omega))
              have w2c := hid (fun w' (mm : Many w3.heap.size w3 w' [.wr pa A, .wr pb (forms m k ++ form m[k]), .wr pc (A ++ forms m k)]) => m_write mm 2 rfl m[k] _ hok rfl hB0 (by omega) (by omega) (by simp; omega))
              unfold agg str at w1c w2c
              clear hok hB0 hsl hq mk
              generalize m[k] = x at *
              go_wp2_with fail
              refine w1c.out.mono ?_
              rintro e w8 ⟨rfl, m8⟩
              clear q0 q1 q2 q3 q4 q5 q6 w1c
              have m8' : Many w3.heap.size w3 w8 [.wr pa A, .wr pb (forms m k ++ form x), .wr pc (A ++ forms m k)] := m8
              obtain ⟨q0, q1, q2, q3, q4, q5, q6⟩ := hq'.out w8 m8'.low
              have w2d := hid (w2c.out w8 m8')
              clear m8 m8' w2c hq'
              go_wp2_with fail
              refine w2d.out.mono ?_
              rintro e w9 ⟨rfl, m9⟩
              have m9' : Many w3.heap.size w3 w9 [.wr pa A, .wr pb (forms m (k + 1)), .wr pc (A ++ forms m (k + 1))] := by rw [hfs.out, ← List.append_assoc]; exact m9
              have hlen : (forms m (k + 1)).length ≤ 20010 * (k + 1) := by rw [hfs.out]; simp; omega
              replace m9' := hid m9'
              clear q0 q1 q2 q3 q4 q5 q6 w2d m9 hfs
              go_wp2
              go_roundw
              case rel => exact ⟨k + 1, by omega, by go_num, hlen, m9'.out⟩
              case measure => simp [intOf]; omega
            · have hlt'' : ¬ (k : Int) < (m.length : Int) := by omega
              obtain rfl : k = m.length := by omega
              generalize hA : forms m m.length = D at *
              have hDl : D.length ≤ 6003000 := by omega
              clear hfl hk hA hlt
              replace mk := hid mk
              go_wp2_with fail
              refine (m_out mk.out 0 rfl (by omega)).mono ?_
              rintro e w7 ⟨a7, c7, rfl, o7, -, b7⟩
              have m7 : Many w3.heap.size w3 w7 [.wr pa A, .wr pb D, .wr pc (A ++ D), .by_ (.slice a7 A.length c7) A] := m_own mk.out b7 o7
              replace m7 := hid m7
              clear mk o7 b7
              go_wp2_with fail
              refine (m_out m7.out 1 rfl (by omega)).mono ?_
              rintro e w8 ⟨a8, c8, rfl, o8, m8, -⟩
              obtain ⟨a9, c9, w9, hrun, m9⟩ := m_app m8 3 rfl o8.isB (by omega)
              have m9' : Many w3.heap.size w3 w9 [.wr pa A, .wr pb D, .wr pc (A ++ D), .by_ (.slice a9 (A.length + D.length) c9) (A ++ D)] := m9
              have cc9 := hid (m_out (p := pc) (zs := A ++ D) m9' 2 rfl (by rw [List.length_append]; omega))
              replace m9' := hid m9'
              clear m7 m8 o8 m9
              go_wp2_with (at_builtin; refine wpList_append_run _ rfl _ _ 29 rfl _ _ _ _ rfl rfl hrun ?_)
              refine cc9.out.mono ?_
              rintro e w10 ⟨a10, c10, rfl, o10, m10, -⟩
              have i10 := hid (m_by m10 3 rfl).isB
              rw [List.length_append] at o10
              replace m10 := hid m10
              replace o10 := hid o10
              clear m9' hrun
              go_wp2_with fail
              refine (same_any _ _ _ _ _ o10.out.isB i10.out).mono ?_
              rintro e w11 ⟨rfl, n, rfl⟩
              go_wp2
              go_ret
              exact ⟨by simp, (B3.out).trans ((m10.out.heap n).low.mono B3.out.size)⟩

theorem own : ownKnob Try.prog.godebug = none := by kernel_rfl
theorem laidOut : laidOutB Try.prog = true := by kernel_rfl

set_option maxRecDepth 100000 in
theorem lifted (os : Os) (started : os.Started) (H : Type) (enc : TypeId × Value → H) :
    ReturnsInHanded {} Try.checked os 3 .any (Rows.codecJoinedSpec.pre6 enc Try.prog Try.f3 Rows.codecJoinedRow.domain false) (Rows.codecJoinedSpec.post enc Try.prog Try.f3 false true false false) := by
  refine returnsInHanded_of_change (C := Try.checked) own started (by kernel_rfl) Try.func3
    (ChangeSpec.witness6 (enc := enc) (C := Try.checked) false ⟨#[], #[.slice none 0 0, .slice none 0 0], []⟩ 8 (by kernel_rfl) (by kernel_rfl) (by kernel_rfl) (by kernel_rfl)) ?_
  intro W base args ds gs before hval0 hW hcnd _
  have hval : ∀ (j : Nat) t v, Try.f3.params[j]? = some t → args[j]? = some v → Value.okWide Try.prog W .any base t v := hval0
  have hW' := hW
  obtain ⟨p, q, hA0, hV, rfl, hfz, hnd⟩ := hW
  have hA : DataW.TrodAll enc Try.prog W 0 (fun _ => true) true Try.f3.params.toList args.toList ds p := hA0
  rw [Try.params3] at hA hval
  obtain ⟨v0, vs0, d0, ds0, p0, q0, hargs, rfl, rfl, h0, r0⟩ := trodAll_cons hA
  obtain ⟨v1, vs1, d1, ds1, p1, q1, rfl, rfl, rfl, h1, r1⟩ := trodAll_cons r0
  obtain ⟨rfl, rfl, rfl⟩ := trodAll_nil r1
  obtain rfl : args = #[v0, v1] := by cases args; simp_all
  obtain ⟨rfl, rfl⟩ := trodVars_none hV
  have k0 := h0
  have lt0 : ∀ x ∈ p0, x.block < W.heap.size := by obtain ⟨m, hm⟩ := k0; exact DataW.trod_lt m _ _ _ hm
  obtain ⟨l0, w0⟩ := open_vals (hval 0 22 v0 rfl rfl) h0
  have k1 := h1
  have lt1 : ∀ x ∈ p1, x.block < W.heap.size := by obtain ⟨m, hm⟩ := k1; exact DataW.trod_lt m _ _ _ hm
  obtain ⟨l1, w1⟩ := open_vals (hval 1 22 v1 rfl rfl) h1
  clear hA0 hval0
  refine (walk v0 l0 v1 l1 W w0 w1).mono fun e W' ⟨he, bel⟩ => ?_
  subst he
  exact ⟨_, rfl, _, _, _, [], _, [], hW', trodAll_mk1 (shut_bool Try.underlying4 _), (trodAll_cons_mk (Below.trod laidOut (by kernel_rfl) (of_decide_eq_true (by kernel_rfl)) k0 bel lt0) (trodAll_cons_mk (Below.trod laidOut (by kernel_rfl) (of_decide_eq_true (by kernel_rfl)) k1 bel lt1) trodAll_mk0)), rfl, bel.frame _, fun h => by cases h⟩

theorem over : Rows.codecJoinedRow.holds Try.pinned (OpenSpec.ofChange Rows.codecJoinedSpec) :=
  OpenClaim.holds_of_wide 3 Try.f3 rfl rfl rfl rfl rfl rfl rfl ⟨rfl, rfl, rfl, rfl, rfl⟩ rfl rfl rfl rfl rfl (by kernel_rfl) Try.func3 (by kernel_rfl)
    (of_decide_eq_true (by kernel_rfl)) (by unfold Func.isWrapper; first | (rw [if_pos (by decide +kernel)]; kernel_rfl) | (rw [if_neg (by decide +kernel)]; exact ⟨rfl, rfl⟩))
    (fun os started H enc _ => lifted os started H enc)

theorem proved : Rows.CodecJoinedSaid := over
#print axioms proved

end Go.Proofs.Ythhfahnlcoiblab.codecJoined
