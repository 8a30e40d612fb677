/- For any text and remark the law LexBack of the program returns true (the stage's theorem): tokens written one behind the other, with a blank between, are read as the same tokens; blanks and remarks ahead and behind change nothing but places. No condition. -/
import Derived.Test.YtlggdeadkebgiaaBp
namespace Go.Proofs.Ytlggdeadkebgiaa.lexBack
open Go.ChangeShapes Go.WideShapes Go.ChangeAt Go.RowKit
open Go.ChangeMaps (open_string shut_string)
set_option linter.unusedVariables false

set_option maxRecDepth 100000 in
set_option maxHeartbeats 8000000 in
theorem walk1 (s r : Tx) (w : World) (hs : s.length ≤ maxLen) (hr : r.length ≤ maxLen) :
    Calls Try.prog 6 #[str s, str r] w fun e w' => e = .returned (.bool true) ∧ Below w.heap.size w w' := by
  unfold maxLen at hs hr
  unfold str
  go_enter Try.func6, Try.ntmps6
  go_wp2_with fail
  refine (awake_any w).mono ?_
  rintro e w0 ⟨rfl, b0⟩
  have B0 := hid b0
  clear b0
  by_cases h1 : 3000 < s.length
  · have h1' : (3000 : Int) < (s.length : Int) := by omega
    go_wp2
    go_ret
    exact ⟨rfl, B0.out⟩
  have h1' : decide ((3000 : Int) < (s.length : Int)) = false := by simp; omega
  have h1'' : decide (3000 < s.length) = false := by simp; omega
  by_cases h2 : 200 < r.length
  · have h2' : (200 : Int) < (r.length : Int) := by omega
    go_wp2
    go_ret
    exact ⟨rfl, B0.out⟩
  have h2' : decide ((200 : Int) < (r.length : Int)) = false := by simp; omega
  have h2'' : decide (200 < r.length) = false := by simp; omega
  obtain ⟨l, b, hsc⟩ := scan_ex s.length s 0 (Nat.le_refl _)
  cases b with
  | some p =>
    have ha := hid (all_bad s w0 hsc (by omega))
    unfold str at ha
    clear hsc
    go_wp2_with fail
    refine ha.out.mono ?_
    rintro e w1 ⟨rfl, b1⟩
    have B1 := hid (low' B0.out b1)
    go_wp2
    go_ret
    exact ⟨rfl, B1.out⟩
  | none =>
    have ha := hid (all_ok s w0 hsc (by omega))
    unfold str at ha
    have hln := (scan_mem hsc).1
    have hm := hid (fun x hx => ((scan_mem hsc).2.1 x hx).1)
    have hp := hid (back_plain hsc)
    have hq := hid (fun n hn => back_note (n := n) hsc hn)
    clear hsc
    go_wp2_with fail
    refine ha.out.mono ?_
    rintro e w1 ⟨a1, c1, rfl, o1, b1⟩
    have B1 := hid (low' B0.out b1)
    have O1 := hid (o1.base (B' := 0) (by omega))
    clear o1 b1 ha B0
    generalize hn : l.length = n at *
    replace hn := hid hn
    go_wp2
    go_loopw [8, 9] (fun tv iv wr => ∃ i : Nat, i ≤ n ∧ iv = .int .i64 (i : Int) ∧ tv = .string ⟨(written (l.take i)).toArray⟩ ∧ Hid (Below w1.heap.size w1 wr)) (fun _ iv _ => n - (intOf iv).toNat)
    case atStart => exact ⟨0, by omega, rfl, rfl, Below.refl _ _⟩
    case round =>
      obtain ⟨i, hi, rfl, rfl, hB⟩ := hrel
      obtain ⟨V, rfl⟩ : ∃ V : World, V = wr := ⟨_, rfl⟩
      by_cases hlt : i < n
      · have hlt' : (i : Int) < (n : Int) := by omega
        obtain ⟨⟨k, tx, en⟩, hx⟩ : ∃ x, l[i]? = some x := ⟨_, List.getElem?_eq_getElem (by rw [hn.out]; exact hlt)⟩
        obtain ⟨g1, rfl, hg1, k1⟩ := (O1.out.below hB.out).cells (fun e => by subst e; simp at hx)
        obtain ⟨q1, q2, q3⟩ := k1 i _ hx
        have htl := hm.out _ (List.mem_of_getElem? hx)
        simp only [] at htl q1 q2 q3
        have hfo := hid (form_any ⟨k, tx, en⟩ V (by simp only []; omega))
        have hfl := form_len ⟨k, tx, en⟩
        simp only [] at hfl
        have hwl := written_len (l.take i) s.length (fun x hx => hm.out x (List.mem_of_mem_take hx))
        have hwl2 : (written (l.take i)).length ≤ 18050000 := by
          have h3 : (l.take i).length ≤ 3000 := by rw [List.length_take]; omega
          have h4 : (l.take i).length * (2 * s.length + 3) ≤ 3000 * 6003 := Nat.mul_le_mul h3 (by omega)
          omega
        have hw2 := hid (written_take l i _ hx)
        generalize hz : written (l.take i) = z at *
        generalize hf : Tk.form ⟨k, tx, en⟩ = fm at *
        replace hz := hid hz
        replace hf := hid hf
        have c1' : (9223372036854775807 < z.length + fm.length) = False := eq_false (by omega)
        have c2' : (9223372036854775807 < z.length + fm.length + 1) = False := eq_false (by omega)
        have hcat : (⟨z.toArray⟩ : ByteArray) ++ ⟨fm.toArray⟩ ++ ⟨#[32]⟩ = ⟨(z ++ (fm ++ [32]) : Tx).toArray⟩ := by
          rw [show (⟨#[32]⟩ : ByteArray) = ⟨([32] : Tx).toArray⟩ from rfl, app_str, app_str, List.append_assoc]
        clear k1 hx hwl hwl2 hfl htl O1 hm hp hq
        go_wp2_with (go_at_call 15; refine hfo.out.mono ?_; rintro e w2 ⟨rfl, hb2⟩; have hB2 := hid (low' hB.out hb2); clear hb2)
        exact ⟨⟨i + 1, by omega, by go_num, by rw [hw2.out], hB2.out⟩, by simp [intOf]; omega⟩
      · have hlt' : ¬ (i : Int) < (n : Int) := by omega
        obtain rfl : i = n := by omega
        have hT : l.take i = l := by rw [← hn.out, List.take_length]
        rw [hT]
        have hwl := written_len l s.length (fun x hx => hm.out x hx)
        have hTl : (written l).length ≤ 18050000 := by
          have h4 : l.length * (2 * s.length + 3) ≤ 3000 * 6003 := Nat.mul_le_mul (by rw [hn.out]; omega) (by omega)
          omega
        generalize hz : written l = T at *
        have B2 := hid (B1.out.trans (hB.out.mono B1.out.size))
        replace O1 := hid (O1.out.below hB.out)
        clear hwl hm hB B1 hT hz
        go_wp2
        go_loop [10, 11] (fun nv jv => ∃ j : Nat, j ≤ r.length ∧ jv = .int .i64 (j : Int) ∧ nv = .string ⟨(35 :: keepR (r.take j) : Tx).toArray⟩) (fun _ jv => r.length - (intOf jv).toNat)
        case atStart => exact ⟨0, by omega, rfl, rfl⟩
        case round =>
          obtain ⟨j, hj, rfl, rfl⟩ := hrel
          by_cases hlt2 : j < r.length
          · have hlt2' : (j : Int) < (r.length : Int) := by omega
            have hget := get_at hlt2
            have hkt := keepR_take r hlt2
            have hone := ext_one hlt2
            have hkl := keepR_len (r.take j)
            obtain ⟨c, hcd⟩ : ∃ c, c = r.getD j 0 := ⟨_, rfl⟩
            rw [← hcd] at hget hkt hone
            have c5 : IntKind.i64.wrap ((j : Int) + 1) = (j : Int) + 1 := by rw [IntKind.wrap_i64]; omega
            obtain ⟨z, hz⟩ : ∃ z : Tx, z = 35 :: keepR (r.take j) := ⟨_, rfl⟩
            have hzl : z.length ≤ 201 := by rw [hz, List.length_cons]; simp at hkl; omega
            have hnext : Hid ((35 :: keepR (r.take (j + 1)) : Tx) = z ++ (if rmk c then [c] else [])) := by unfold Hid; rw [hkt, hz]; simp
            rw [← hz]
            clear hz hkt hcd hkl
            have k1 : (9223372036854775807 < z.length + 1) = False := eq_false (by omega)
            have cat1 : (⟨z.toArray⟩ : ByteArray) ++ ⟨([c] : Tx).toArray⟩ = ⟨(z ++ [c] : Tx).toArray⟩ := app_str _ _
            by_cases h10 : c.toNat = 10
            · have t1 : ((c.toNat : Int) != 10) = false := by simp; omega
              have e : rmk c = false := by unfold rmk; simp [h10]
              rw [e] at hnext
              simp only [Bool.false_eq_true, if_false, List.append_nil] at hnext
              clear h10 e
              go_wp2
              exact ⟨⟨j + 1, by omega, by go_num, by rw [hnext.out]⟩, by simp [intOf]; omega⟩
            · have t1 : ((c.toNat : Int) != 10) = true := by simp; omega
              have e : rmk c = true := by unfold rmk; simp [h10]
              rw [e] at hnext
              simp only [if_true] at hnext
              clear h10 e
              go_wp2
              exact ⟨⟨j + 1, by omega, by go_num, by rw [hnext.out]⟩, by simp [intOf]; omega⟩
          · have hlt2' : ¬ (j : Int) < (r.length : Int) := by omega
            obtain rfl : j = r.length := by omega
            rw [List.take_length]
            have hkl := keepR_len r
            have hno := hid (hq.out (keepR r) (keepR_no r))
            obtain ⟨N, hN⟩ : ∃ N : Tx, N = 35 :: keepR r := ⟨_, rfl⟩
            have hNl : N.length ≤ 201 := by rw [hN, List.length_cons]; omega
            have hno2 : Hid (∃ m, Scan 0 (N ++ 10 :: 9 :: (T ++ N)) m none ∧ m.map Tk.key = l.map Tk.key) := by
              unfold Hid
              rw [hN]
              exact hno.out
            rw [← hN]
            clear hN hkl hno hq
            go_wp2
            go_loopw [12] (fun uv wr => ∃ j : Nat, j ≤ 2 ∧ uv = .int .i64 (j : Int) ∧ Hid (Below V.heap.size V wr)) (fun uv _ => 2 - (intOf uv).toNat)
            case atStart => exact ⟨0, by omega, rfl, Below.refl _ _⟩
            case round =>
              obtain ⟨j, hj, rfl, hB⟩ := hrel
              obtain ⟨X, rfl⟩ : ∃ X : World, X = wr := ⟨_, rfl⟩
              by_cases hj2 : j < 2
              · have hj2' : (j : Int) < 2 := by omega
                by_cases hj1 : j = 1
                · subst hj1
                  obtain ⟨m, hsm, hkey⟩ := hno2.out
                  have hcat : (⟨N.toArray⟩ : ByteArray) ++ ⟨#[10, 9]⟩ ++ ⟨T.toArray⟩ ++ ⟨N.toArray⟩ = ⟨(N ++ 10 :: 9 :: (T ++ N) : Tx).toArray⟩ := by
                    rw [show (⟨#[10, 9]⟩ : ByteArray) = ⟨([10, 9] : Tx).toArray⟩ from rfl, app_str, app_str, app_str]
                    simp
                  have d1 : (9223372036854775807 < N.length + 2) = False := eq_false (by omega)
                  have d2 : (9223372036854775807 < N.length + 2 + T.length) = False := eq_false (by omega)
                  have d3 : (9223372036854775807 < N.length + 2 + T.length + N.length) = False := eq_false (by omega)
                  have hUl : (N ++ 10 :: 9 :: (T ++ N) : Tx).length ≤ 18060000 := by simp; omega
                  generalize hU : (N ++ 10 :: 9 :: (T ++ N) : Tx) = U at *
                  clear hU hp hno2
                  by_cases hbig : 4096 < U.length
                  · have tb : decide ((4096 : Int) < (U.length : Int)) = true := by simp; omega
                    have tb' : decide (4096 < U.length) = true := by simp; omega
                    have B5 := hid (B2.out.trans (hB.out.mono B2.out.size))
                    clear hsm hkey O1
                    go_wp2
                    go_ret
                    exact ⟨rfl, B5.out⟩
                  have tb : decide ((4096 : Int) < (U.length : Int)) = false := by simp; omega
                  have tb' : decide (4096 < U.length) = false := by simp; omega
                  have hal := hid (all_ok U X hsm (by omega))
                  unfold str at hal
                  have hml := key_len hkey
                  rw [hn.out] at hml
                  replace hkey := hid hkey
                  clear hsm
                  go_wp2_with fail
                  refine hal.out.mono ?_
                  rintro e w5 ⟨a5, c5, rfl, o5, b5⟩
                  have hB5 := hid (low' hB.out b5)
                  have O5 := hid (o5.base (B' := 0) (by omega))
                  have O6 := hid (O1.out.below hB5.out)
                  clear o5 b5 hal
                  simp only [hml]
                  replace hml := hid hml
                  go_wp2
                  go_loopw [17] (fun qv wr => ∃ q : Nat, q ≤ i ∧ qv = .int .i64 (q : Int) ∧ Hid (Below w5.heap.size w5 wr)) (fun qv _ => i - (intOf qv).toNat)
                  case atStart => exact ⟨0, by omega, rfl, Below.refl _ _⟩
                  case round =>
                    obtain ⟨q, hq, rfl, hC⟩ := hrel
                    obtain ⟨Y, rfl⟩ : ∃ Y : World, Y = wr := ⟨_, rfl⟩
                    by_cases hlq : q < i
                    · have hlq' : (q : Int) < (i : Int) := by omega
                      obtain ⟨⟨k, tx, en⟩, hx⟩ : ∃ x, l[q]? = some x := ⟨_, List.getElem?_eq_getElem (by rw [hn.out]; exact hlq)⟩
                      obtain ⟨y, hy, e1, e2⟩ := key_at hkey.out hx
                      obtain ⟨g1, rfl, hg1, k1⟩ := (O6.out.below hC.out).cells (fun e => by subst e; simp at hx)
                      obtain ⟨p1, p2, p3⟩ := k1 q _ hx
                      obtain ⟨g5, rfl, hg5, k5⟩ := (O5.out.below hC.out).cells (fun e => by subst e; simp at hy)
                      obtain ⟨r1, r2, r3⟩ := k5 q _ hy
                      simp only [] at p1 p2 p3 e1 e2
                      rw [e1] at r1
                      rw [e2] at r2
                      clear k1 k5 e1 e2 hx hy hkey O1 O5 O6
                      go_wp2
                      go_quiet (fail)
                      go_wp2
                      exact ⟨⟨q + 1, by omega, by go_num, below_drewN hC.out⟩, by simp [intOf]; omega⟩
                    · have hlq' : ¬ (q : Int) < (i : Int) := by omega
                      obtain rfl : q = i := by omega
                      have hB6 := hid (hB5.out.trans (hC.out.mono hB5.out.size))
                      clear hkey O1 O5 O6
                      go_wp2
                      exact ⟨⟨2, by omega, by go_num, hB6.out⟩, by simp [intOf]⟩
                · obtain rfl : j = 0 := by omega
                  obtain ⟨m, hsm, hkey⟩ := hp.out
                  clear hp hno2
                  by_cases hbig : 4096 < T.length
                  · have tb : decide ((4096 : Int) < (T.length : Int)) = true := by simp; omega
                    have tb' : decide (4096 < T.length) = true := by simp; omega
                    have B5 := hid (B2.out.trans (hB.out.mono B2.out.size))
                    clear hsm hkey O1
                    go_wp2
                    go_ret
                    exact ⟨rfl, B5.out⟩
                  have tb : decide ((4096 : Int) < (T.length : Int)) = false := by simp; omega
                  have tb' : decide (4096 < T.length) = false := by simp; omega
                  have hal := hid (all_ok T X hsm (by omega))
                  unfold str at hal
                  have hml := key_len hkey
                  rw [hn.out] at hml
                  replace hkey := hid hkey
                  clear hsm
                  go_wp2_with fail
                  refine hal.out.mono ?_
                  rintro e w5 ⟨a5, c5, rfl, o5, b5⟩
                  have hB5 := hid (low' hB.out b5)
                  have O5 := hid (o5.base (B' := 0) (by omega))
                  have O6 := hid (O1.out.below hB5.out)
                  clear o5 b5 hal
                  simp only [hml]
                  replace hml := hid hml
                  go_wp2
                  go_loopw [17] (fun qv wr => ∃ q : Nat, q ≤ i ∧ qv = .int .i64 (q : Int) ∧ Hid (Below w5.heap.size w5 wr)) (fun qv _ => i - (intOf qv).toNat)
                  case atStart => exact ⟨0, by omega, rfl, Below.refl _ _⟩
                  case round =>
                    obtain ⟨q, hq, rfl, hC⟩ := hrel
                    obtain ⟨Y, rfl⟩ : ∃ Y : World, Y = wr := ⟨_, rfl⟩
                    by_cases hlq : q < i
                    · have hlq' : (q : Int) < (i : Int) := by omega
                      obtain ⟨⟨k, tx, en⟩, hx⟩ : ∃ x, l[q]? = some x := ⟨_, List.getElem?_eq_getElem (by rw [hn.out]; exact hlq)⟩
                      obtain ⟨y, hy, e1, e2⟩ := key_at hkey.out hx
                      obtain ⟨g1, rfl, hg1, k1⟩ := (O6.out.below hC.out).cells (fun e => by subst e; simp at hx)
                      obtain ⟨p1, p2, p3⟩ := k1 q _ hx
                      obtain ⟨g5, rfl, hg5, k5⟩ := (O5.out.below hC.out).cells (fun e => by subst e; simp at hy)
                      obtain ⟨r1, r2, r3⟩ := k5 q _ hy
                      simp only [] at p1 p2 p3 e1 e2
                      rw [e1] at r1
                      rw [e2] at r2
                      clear k1 k5 e1 e2 hx hy hkey O1 O5 O6
                      go_wp2
                      go_quiet (fail)
                      go_wp2
                      exact ⟨⟨q + 1, by omega, by go_num, below_drewN hC.out⟩, by simp [intOf]; omega⟩
                    · have hlq' : ¬ (q : Int) < (i : Int) := by omega
                      obtain rfl : q = i := by omega
                      have hB6 := hid (hB5.out.trans (hC.out.mono hB5.out.size))
                      clear hkey O1 O5 O6
                      go_wp2
                      exact ⟨⟨1, by omega, by go_num, hB6.out⟩, by simp [intOf]⟩
              · have hj2' : ¬ (j : Int) < 2 := by omega
                obtain rfl : j = 2 := by omega
                have B5 := hid (B2.out.trans (hB.out.mono B2.out.size))
                clear hp hno2 O1
                go_wp2
                go_ret
                exact ⟨rfl, B5.out⟩
theorem walk (s r : ByteArray) (w : World) (hs : s.size ≤ maxLen) (hr : r.size ≤ maxLen) :
    Calls Try.prog 6 #[.string s, .string r] w fun e w' => e = .returned (.bool true) ∧ Below w.heap.size w w' := by
  rw [str_of s, str_of r]
  exact walk1 _ _ w hs hr

theorem own : ownKnob Try.prog.godebug = none := by kernel_rfl
theorem laidOut : laidOutB Try.prog = true := by kernel_rfl

set_option maxRecDepth 100000 in
theorem lifted (os : Os) (started : os.Started) (H : Type) (enc : TypeId × Value → H) :
    ReturnsInHanded {} Try.checked os 6 .any (Rows.lexBackSpec.pre6 enc Try.prog Try.f6 Rows.lexBackRow.domain false) (Rows.lexBackSpec.post enc Try.prog Try.f6 false true false false) := by
  refine returnsInHanded_of_change (C := Try.checked) own started (by kernel_rfl) Try.func6
    (ChangeSpec.witness6 (enc := enc) (C := Try.checked) false ⟨#[], #[.string ⟨#[]⟩, .string ⟨#[]⟩], []⟩ 8 (by kernel_rfl) (by kernel_rfl) (by kernel_rfl) (by kernel_rfl)) ?_
  intro W base args ds gs before hval0 hW hcnd _
  have hval : ∀ (j : Nat) t v, Try.f6.params[j]? = some t → args[j]? = some v → Value.okWide Try.prog W .any base t v := hval0
  have hW' := hW
  obtain ⟨p, q, hA0, hV, rfl, hfz, hnd⟩ := hW
  have hA : DataW.TrodAll enc Try.prog W 0 (fun _ => true) true Try.f6.params.toList args.toList ds p := hA0
  rw [Try.params6] at hA hval
  obtain ⟨v0, vs0, d0, ds0, p0, q0, hargs, rfl, rfl, h0, r0⟩ := trodAll_cons hA
  obtain ⟨v1, vs1, d1, ds1, p1, q1, rfl, rfl, rfl, h1, r1⟩ := trodAll_cons r0
  obtain ⟨rfl, rfl, rfl⟩ := trodAll_nil r1
  obtain rfl : args = #[v0, v1] := by cases args; simp_all
  obtain ⟨rfl, rfl⟩ := trodVars_none hV
  obtain ⟨a0, rfl, rfl, rfl, w0⟩ := open_string Try.underlying9 (hval 0 9 v0 rfl rfl) h0
  obtain ⟨a1, rfl, rfl, rfl, w1⟩ := open_string Try.underlying9 (hval 1 9 v1 rfl rfl) h1
  clear hA0 hval0
  refine (walk a0 a1 W w0 w1).mono fun e W' ⟨he, bel⟩ => ?_
  subst he
  exact ⟨_, rfl, _, _, _, [], _, [], hW', trodAll_mk1 (shut_bool Try.underlying4 _), (trodAll_cons_mk (shut_string Try.underlying9 w0) (trodAll_cons_mk (shut_string Try.underlying9 w1) trodAll_mk0)), rfl, bel.frame _, fun h => by cases h⟩

theorem over : Rows.lexBackRow.holds Try.pinned (OpenSpec.ofChange Rows.lexBackSpec) :=
  OpenClaim.holds_of_wide 6 Try.f6 rfl rfl rfl rfl rfl rfl rfl ⟨rfl, rfl, rfl, rfl, rfl⟩ rfl rfl rfl rfl rfl (by kernel_rfl) Try.func6 (by kernel_rfl)
    (of_decide_eq_true (by kernel_rfl)) (by unfold Func.isWrapper; first | (rw [if_pos (by decide +kernel)]; kernel_rfl) | (rw [if_neg (by decide +kernel)]; exact ⟨rfl, rfl⟩))
    (fun os started H enc _ => lifted os started H enc)

theorem proved : Rows.LexBackSaid := over
#print axioms proved

end Go.Proofs.Ytlggdeadkebgiaa.lexBack
