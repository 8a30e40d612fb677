/- For any text the law LexPlaces of the program returns true: tokens stand one behind the other, each where its text says; between them stand blanks and remarks alone. No condition. -/
import Derived.Test.YtlggdeadkebgiaaF1
namespace Go.Proofs.Ytlggdeadkebgiaa.lexPlaces
open Go.ChangeShapes Go.WideShapes Go.ChangeAt Go.RowKit
open Go.ChangeMaps (open_string shut_string)
set_option linter.unusedVariables false

theorem part_of (s : Tx) (b g : Nat) : (s.take (b + g)).drop b = (s.drop b).take g := by
  rw [List.drop_take, Nat.add_sub_cancel_left]
set_option maxRecDepth 100000 in
set_option maxHeartbeats 4000000 in
theorem walk1 (s : Tx) (w : World) (hs : s.length ≤ maxLen) :
    Calls Try.prog 5 #[str s] w fun e w' => e = .returned (.bool true) ∧ Below w.heap.size w w' := by
  unfold maxLen at hs
  unfold str
  go_enter Try.func5, Try.ntmps5
  go_wp2_with fail
  refine (awake_any w).mono ?_
  rintro e w0 ⟨rfl, b0⟩
  have B0 := hid b0
  clear b0
  by_cases h1 : 5000 < s.length
  · have h1' : (5000 : Int) < (s.length : Int) := by omega
    go_wp2
    go_ret
    exact ⟨rfl, B0.out⟩
  have h1' : decide ((5000 : Int) < (s.length : Int)) = false := by simp; omega
  have h1'' : decide (5000 < s.length) = false := by simp; omega
  by_cases h2 : 4096 < s.length
  · have h2' : decide ((4096 : Int) < (s.length : Int)) = true := by simp; omega
    have h2'' : decide (4096 < s.length) = true := by simp; omega
    have h3 : (0 : Int) ≤ (s.length : Int) := by omega
    have ha := hid (all_long s w0 h2 (by omega))
    unfold str at ha
    go_wp2_with fail
    refine ha.out.mono ?_
    rintro e w1 ⟨rfl, b1⟩
    have B1 := hid (low' B0.out b1)
    go_wp2
    go_ret
    exact ⟨rfl, B1.out⟩
  have h2' : decide ((4096 : Int) < (s.length : Int)) = false := by simp; omega
  have h2'' : decide (4096 < s.length) = false := by simp; omega
  obtain ⟨l, b, hsc⟩ := scan_ex s.length s 0 (Nat.le_refl _)
  cases b with
  | some p =>
    have ha := hid (all_bad s w0 hsc (by omega))
    unfold str at ha
    have hp := (scan_mem hsc).2.2 p rfl
    have h3 : (0 : Int) ≤ (p : Int) := by omega
    have h4 : (p : Int) ≤ (s.length : Int) := by omega
    clear hsc
    go_wp2_with fail
    refine ha.out.mono ?_
    rintro e w1 ⟨rfl, b1⟩
    have B1 := hid (low' B0.out b1)
    go_wp2
    go_ret
    exact ⟨rfl, B1.out⟩
  | none =>
    have ha := hid (all_ok s w0 hsc (by omega))
    unfold str at ha
    have hm := hid (scan_mem hsc).2.1
    have hln := (scan_mem hsc).1
    have hst := hid hsc
    clear hsc
    go_wp2_with fail
    refine ha.out.mono ?_
    rintro e w1 ⟨a1, c1, rfl, o1, b1⟩
    have B1 := hid (low' B0.out b1)
    have O1 := hid o1
    clear o1 b1 ha B0
    generalize hn : l.length = n at *
    replace hn := hid hn
    go_wp2
    go_loopw [6, 7] (fun bv iv wr => ∃ (i bh : Nat), i ≤ n + 1 ∧ bv = .int .i64 (bh : Int) ∧ iv = .int .i64 (i : Int) ∧ Hid (i ≤ n → bh ≤ s.length ∧ Scan bh (s.drop bh) (l.drop i) none) ∧ Hid (Below w1.heap.size w1 wr)) (fun _ iv _ => n + 1 - (intOf iv).toNat)
    case atStart => exact ⟨0, 0, by omega, rfl, rfl, (fun _ => ⟨by omega, hst.out⟩), Below.refl _ _⟩
    case round =>
      obtain ⟨i, bh, hi, rfl, rfl, hsc, hB⟩ := hrel
      obtain ⟨V, rfl⟩ : ∃ V : World, V = wr := ⟨_, rfl⟩
      by_cases hlt : i < n
      · have hlt' : (i : Int) < (n : Int) := by omega
        have hle' : (i : Int) ≤ (n : Int) := by omega
        obtain ⟨hbl, hS⟩ := hsc.out (by omega)
        have hrl : (s.drop bh).length = s.length - bh := by simp
        rcases scan_step hS with ⟨_, h5, _⟩ | ⟨_, _, _, h5⟩ | ⟨hg, k, tx, u, l', hf, hd, hS'⟩
        · have := congrArg List.length h5
          simp at this
          have := hn.out
          omega
        · cases h5
        · obtain ⟨hu, hul, htk, hfl, hk1, hk4, htl⟩ := first_form hf
          have hbw := betw_gap (s.drop bh) false
          change betw false ((s.drop bh).take (gap (s.drop bh))) = true at hbw
          rw [List.drop_drop] at hf htk hul
          rw [List.drop_drop, ← Nat.add_assoc] at hS'
          simp only [List.length_drop] at hul
          have hle := gap_le (s.drop bh)
          generalize hgg : gap (s.drop bh) = g at *
          obtain ⟨en, hen⟩ : ∃ en, en = bh + g := ⟨_, rfl⟩
          rw [← hen] at hf htk hul hS' hd
          have hxi : l[i]? = some ⟨k, tx, en⟩ := by
            have := congrArg (fun q => q[0]?) hd
            simpa using this
          have hd2 : l.drop (i + 1) = l' := by rw [← List.drop_drop, hd]; rfl
          rw [← hd2] at hS'
          have hs3 : Hid (i + 1 ≤ n → en + u ≤ s.length ∧ Scan (en + u) (s.drop (en + u)) (l.drop (i + 1)) none) := fun _ => ⟨by omega, hS'⟩
          have e1 : (⟨s.toArray⟩ : ByteArray).extract bh en = ⟨((s.drop bh).take g).toArray⟩ := by rw [ext_str, hen, part_of]
          obtain ⟨fm, hfm⟩ : ∃ fm, fm = form k tx := ⟨_, rfl⟩
          rw [← hfm] at htk hfl
          have e2 : (⟨s.toArray⟩ : ByteArray).extract en (en + u) = ⟨fm.toArray⟩ := by rw [ext_str, part_of, htk]
          have hfo := hid (form_any ⟨k, tx, en⟩ V (by simp only []; omega))
          change Hid (Calls _ _ #[.agg #[.int .u8 (k : Int), .string ⟨tx.toArray⟩, .int .i64 (en : Int)]] V fun e w' => e = .returned (.string ⟨(form k tx).toArray⟩) ∧ Below V.heap.size V w') at hfo
          rw [← hfm] at hfo
          have hbt := hid (lbetween_any ((s.drop bh).take g) V (by simp; omega))
          rw [hbw] at hbt
          have hne : fm.isEmpty = false := by cases fm with
            | nil => simp at hfl; omega
            | cons _ _ => rfl
          have hne2 : (fm == []) = false := by cases fm with
            | nil => simp at hfl; omega
            | cons _ _ => rfl
          obtain ⟨g1, rfl, hg1, k1⟩ := (O1.out.below hB.out).cells (fun e => by subst e; simp at hxi)
          obtain ⟨q1, q2, q3⟩ := k1 i _ hxi
          have t1 : decide ((en : Int) < (bh : Int)) = false := by simp; omega
          have t1' : decide (en < bh) = false := by simp; omega
          have t2 : decide ((k : Int) < 1) = false := by simp; omega
          have t3 : decide ((4 : Int) < (k : Int)) = false := by simp; omega
          obtain ⟨m, hm2⟩ : ∃ m, m = s.length - en := ⟨_, rfl⟩
          have c5 : IntKind.i64.wrap ((s.length : Int) - (en : Int)) = (m : Int) := by rw [IntKind.wrap_i64]; omega
          have t4 : decide ((m : Int) < (u : Int)) = false := by simp; omega
          have t4' : decide (m < u) = false := by simp; omega
          have c6 : IntKind.i64.wrap ((en : Int) + (u : Int)) = (en : Int) + (u : Int) := by rw [IntKind.wrap_i64]; omega
          have d1 : (0 : Int) ≤ (bh : Int) := by omega
          have d2 : (bh : Int) ≤ (en : Int) := by omega
          have d3 : (en : Int) ≤ (s.length : Int) := by omega
          have d4 : (0 : Int) ≤ (en : Int) := by omega
          have d5 : (en : Int) ≤ (en : Int) + (u : Int) := by omega
          have d6 : (en : Int) + (u : Int) ≤ (s.length : Int) := by omega
          have hn4 : n ≤ 4096 := by omega
          clear k1 hS hS' hf htk hbw hgg hd hd2 hxi hfm hul hle hg hsc hst hm O1 hen hm2 hrl hu
          generalize (s.drop bh).take g = pc at *
          have B2 := hid hB.out
          go_wp2_with (first | (go_at_call 14; refine hbt.out.mono ?_; rintro e w' ⟨rfl, hw'⟩; have hw2 := hw'.symm; subst hw2) | (go_at_call 15; refine hfo.out.mono ?_; rintro e w2 ⟨rfl, hb2⟩; rw [← hb2.cell (p := ⟨g1, i * 3, none⟩) hg1] at q1; rw [← hb2.cell (p := ⟨g1, i * 3 + 1, none⟩) hg1] at q2; rw [← hb2.cell (p := ⟨g1, i * 3 + 2, none⟩) hg1] at q3; replace B2 := hid (low' B2.out hb2); clear hb2))
          exact ⟨⟨i + 1, en + u, by omega, by go_num, by go_num, hs3, B2.out⟩, by simp [intOf]; omega⟩
      · by_cases hin : i = n
        · subst hin
          have hlt' : ¬ (i : Int) < (i : Int) := by omega
          obtain ⟨hbl, hS⟩ := hsc.out (by omega)
          have hd : l.drop i = [] := List.drop_eq_nil_of_le (by have := hn.out; omega)
          rw [hd] at hS
          have hbw := betw_gap (s.drop bh) false
          change betw false ((s.drop bh).take (gap (s.drop bh))) = true at hbw
          rcases scan_step hS with ⟨h5, _⟩ | ⟨_, _, _, h5⟩ | ⟨_, _, _, _, _, _, h5, _⟩
          · rw [h5, List.take_length] at hbw
            have hbt := hid (lbetween_any (s.drop bh) V (by simp; omega))
            rw [hbw] at hbt
            have e1 := ext_from s bh s.length rfl
            have t1 : decide ((s.length : Int) < (bh : Int)) = false := by simp; omega
            have t1' : decide (s.length < bh) = false := by simp; omega
            have d1 : (0 : Int) ≤ (bh : Int) := by omega
            have d2 : (bh : Int) ≤ (s.length : Int) := by omega
            have hn4 : i ≤ 4096 := by omega
            clear hS hbw h5 hd hsc hst hm O1
            generalize s.drop bh = pc at *
            go_wp2_with (go_at_call 14; refine hbt.out.mono ?_; rintro e w' ⟨rfl, hw'⟩; have hw2 := hw'.symm; subst hw2)
            exact ⟨⟨i + 1, bh, by omega, by go_num, by go_num, (fun h => by omega), hB.out⟩, by simp [intOf]⟩
          · cases h5
          · cases h5
        · have hi1 : i = n + 1 := by omega
          have hle' : ¬ (i : Int) ≤ (n : Int) := by omega
          have B4 := hid (B1.out.trans (hB.out.mono B1.out.size))
          clear hsc hst hm O1 hi1 hin
          go_wp2
          go_ret
          exact ⟨rfl, B4.out⟩
theorem walk (s : ByteArray) (w : World) (hs : s.size ≤ maxLen) :
    Calls Try.prog 5 #[.string s] w fun e w' => e = .returned (.bool true) ∧ Below w.heap.size w w' := by
  rw [str_of s]
  exact walk1 _ w hs

theorem own : ownKnob Try.prog.godebug = none := by kernel_rfl
theorem laidOut : laidOutB Try.prog = true := by kernel_rfl

set_option maxRecDepth 100000 in
theorem lifted (os : Os) (started : os.Started) (H : Type) (enc : TypeId × Value → H) :
    ReturnsInHanded {} Try.checked os 5 .any (Rows.lexPlacesSpec.pre6 enc Try.prog Try.f5 Rows.lexPlacesRow.domain false) (Rows.lexPlacesSpec.post enc Try.prog Try.f5 false true false false) := by
  refine returnsInHanded_of_change (C := Try.checked) own started (by kernel_rfl) Try.func5
    (ChangeSpec.witness6 (enc := enc) (C := Try.checked) false ⟨#[], #[.string ⟨#[]⟩], []⟩ 8 (by kernel_rfl) (by kernel_rfl) (by kernel_rfl) (by kernel_rfl)) ?_
  intro W base args ds gs before hval0 hW hcnd _
  have hval : ∀ (j : Nat) t v, Try.f5.params[j]? = some t → args[j]? = some v → Value.okWide Try.prog W .any base t v := hval0
  have hW' := hW
  obtain ⟨p, q, hA0, hV, rfl, hfz, hnd⟩ := hW
  have hA : DataW.TrodAll enc Try.prog W 0 (fun _ => true) true Try.f5.params.toList args.toList ds p := hA0
  rw [Try.params5] at hA hval
  obtain ⟨v0, vs0, d0, ds0, p0, q0, hargs, rfl, rfl, h0, r0⟩ := trodAll_cons hA
  obtain ⟨rfl, rfl, rfl⟩ := trodAll_nil r0
  obtain rfl : args = #[v0] := by cases args; simp_all
  obtain ⟨rfl, rfl⟩ := trodVars_none hV
  obtain ⟨a0, rfl, rfl, rfl, w0⟩ := open_string Try.underlying9 (hval 0 9 v0 rfl rfl) h0
  clear hA0 hval0
  refine (walk a0 W w0).mono fun e W' ⟨he, bel⟩ => ?_
  subst he
  exact ⟨_, rfl, _, _, _, [], _, [], hW', trodAll_mk1 (shut_bool Try.underlying4 _), (trodAll_cons_mk (shut_string Try.underlying9 w0) trodAll_mk0), rfl, bel.frame _, fun h => by cases h⟩

theorem over : Rows.lexPlacesRow.holds Try.pinned (OpenSpec.ofChange Rows.lexPlacesSpec) :=
  OpenClaim.holds_of_wide 5 Try.f5 rfl rfl rfl rfl rfl rfl rfl ⟨rfl, rfl, rfl, rfl, rfl⟩ rfl rfl rfl rfl rfl (by kernel_rfl) Try.func5 (by kernel_rfl)
    (of_decide_eq_true (by kernel_rfl)) (by unfold Func.isWrapper; first | (rw [if_pos (by decide +kernel)]; kernel_rfl) | (rw [if_neg (by decide +kernel)]; exact ⟨rfl, rfl⟩))
    (fun os started H enc _ => lifted os started H enc)

theorem proved : Rows.LexPlacesSaid := over
#print axioms proved

end Go.Proofs.Ytlggdeadkebgiaa.lexPlaces
