/- For any bytes and any questions the law CodecFails of the program returns true and leaves them as they were: a reader that has failed tells nothing any more, and goes on to have failed. No condition. -/
import Derived.Test.YthhfahnlcoiblaaOp3
namespace Go.Proofs.Ythhfahnlcoiblaa.codecFails
open Go.ChangeShapes Go.WideShapes Go.ChangeAt Go.RowKit
set_option linter.unusedVariables false

set_option maxHeartbeats 4000000 in
theorem walk (v0 : Value) (z : List Int) (v1 : Value) (l : List Aq) (w : World) (h0 : IsB w v0 z) (h1 : IsQs w v1 l) :
    Calls Try.prog 8 #[v0, v1] w fun e w' => e = .returned (.bool true) ∧ Below w.heap.size w w' := by
  obtain ⟨a0, c0, rfl⟩ := h0.slice
  obtain ⟨a1, c1, rfl⟩ := h1.slice
  obtain ⟨-, hb01, hb02⟩ := h0.bound
  have hml := h1.1
  unfold maxLen at hml
  replace h0 := hid h0
  replace h1 := hid h1
  go_enter Try.func8, Try.ntmps8
  go_wp2_with fail
  refine (awake_any w).mono ?_
  rintro e w1 ⟨rfl, b1⟩
  have B1 := hid b1
  clear b1
  by_cases hz : 20000 < z.length
  · have hz' : (20000 : Int) < (z.length : Int) := by omega
    go_wp2
    go_ret
    exact ⟨rfl, B1.out⟩
  have hz' : ¬ (20000 : Int) < (z.length : Int) := by omega
  by_cases hl : 300 < l.length
  · have hl' : (300 : Int) < (l.length : Int) := by omega
    go_wp2
    go_ret
    exact ⟨rfl, B1.out⟩
  have hl' : ¬ (300 : Int) < (l.length : Int) := by omega
  replace h1 := hid (h1.out.below B1.out)
  go_wp2_with fail
  refine (m_over (Many.nil w1) _ (h0.out.below B1.out) (by omega)).mono ?_
  rintro e w2 ⟨p, rfl, m2⟩
  replace m2 := hid m2
  go_wp2
  go_loopw [6, 7] (fun fv iv wr => ∃ (k : Nat) (st : St), k ≤ l.length ∧ iv = .int .i64 (k : Int) ∧ (∃ f : Bool, fv = .bool f ∧ (f = true → st = none)) ∧ Bst st ∧ (st.getD []).length ≤ 20000 ∧ Many w1.heap.size w1 wr [.rd p st]) (fun _ iv _ => l.length - (intOf iv).toNat)
  case atStart => exact ⟨0, some z, by omega, rfl, ⟨false, rfl, fun h => by cases h⟩, h0.out.byt, by show z.length ≤ _; omega, m2.out⟩
  case round =>
    clear m2
    obtain ⟨k, st, hk, rfl, ⟨f, rfl, hf⟩, hbst, hst, mk⟩ := hrel
    by_cases hlt : k < l.length
    · have hlt' : (k : Int) < (l.length : Int) := by omega
      obtain ⟨b, off, rfl, hok, hq⟩ := h1.out.get k hlt
      obtain ⟨q0, q1⟩ := hq wr mk.low
      have hq' := hid hq
      have hok1 := hok.k
      obtain ⟨hok2, hok3⟩ := hok.m
      clear hq hok
      generalize l[k] = x at *
      by_cases h5 : 5 < x.k
      · have h5' : (5 : Int) < (x.k : Int) := by omega
        have hrel : Hid (∃ f', Value.bool f = .bool f' ∧ (f' = true → st = none)) := ⟨f, rfl, hf⟩
        replace mk := hid mk
        replace hbst := hid hbst
        go_wp2
        go_roundw
        case rel => exact ⟨k + 1, st, by omega, by go_num, hrel.out, hbst.out, hst, mk.out⟩
        case measure => simp [intOf]; omega
      · have h5' : ¬ (5 : Int) < (x.k : Int) := by omega
        have hrd := hid (fun n => m_read (mk.heap n) 0 rfl x.k x.m (by omega) hok3 (rpiece_short st (by omega)))
        have hrd2 := hid (fun n => m_read (l := [.rd p st, .bx wr.heap.size (zcells 0) 29]) ((m_boxNew mk (zcells 0) 29).heap n) 0 rfl x.k x.m (by omega) hok3 (rpiece_short st (by omega)))
        obtain ⟨q2, q3⟩ := hq'.out (wr.alloc (.cells (zcells 0) 29)) (mk.low.trans ((alloc_below _ _).mono mk.size))
        have hbl := World.block_lt_of_cell? wr _ q0
        simp only at hbl
        unfold zcells at q2 q3
        have hfail := readP_fail x.k x.m st
        have hbst' := readP_bst x.k x.m hbst
        have hst' := Nat.le_trans (readP_rest x.k x.m st) hst
        have hnn : st = none → (readP x.k x.m st).2 = none := fun e => by rw [e, readP_none]
        unfold MRead at hrd hrd2
        generalize readP x.k x.m st = r at *
        obtain ⟨y, st'⟩ := r
        simp only at hrd hrd2 hfail hbst' hst' hnn
        replace mk := hid mk
        replace hf := hid hf
        replace hfail := hid hfail
        replace hbst' := hid hbst'
        replace hnn := hid hnn
        clear hbst
        go_upto_region 11 with fail
        go_cut [8] from 21 to 67 (fun s8 wx => ∃ pv a c, s8 = .pointer (some ⟨pv, 0, none⟩) ∧ Many w1.heap.size w1 wx [.rd p st', .by_ (.slice a y.l.length c) y.l, .bx pv (cellsV y (.slice a y.l.length c)) 29])
        case first =>
          go_region_with (first | (go_at_call 17; refine (hrd.out _).mono ?_; rintro e w3 ⟨a, c, he, m3⟩; unfold agg str at he; subst he; replace m3 := hid m3) | (go_at_call 17; refine (hrd2.out _).mono ?_; rintro e w3 ⟨a, c, he, m4⟩; unfold agg str at he; subst he; obtain ⟨⟨z0, z1, z2, z3, z4, z5, z6⟩, zf⟩ := box_zero (m_box m4 1 rfl); replace m4 := hid m4))
          all_goals (try go_wp2_with fail)
          all_goals go_meet
          all_goals first | exact ⟨_, a, c, rfl, m_boxNew m3.out _ _⟩ | exact ⟨_, a, c, rfl, Many.swap (l := [_]) (m_box7 (l := [_]) m4.out rfl _ _ _ _ _ _ _)⟩
        case rest =>
          obtain ⟨pv, a, c, rfl, mc⟩ := hcut
          clear hrd hrd2 q0 q1 q2 q3 mk hbl
          obtain ⟨q0, q1⟩ := hq'.out wc mc.low
          have hcell := m_box mc 2 rfl
          have hown := (m_by mc 1 rfl).isB
          have he := hid (m_err mc 0 rfl)
          have hd := hid (fun W (m : Many w1.heap.size w1 W [.rd p st']) => m_done m 0 rfl)
          have he2 := hid (fun W (m : Many w1.heap.size w1 W [.rd p st']) => m_err m 0 rfl)
          have mr := hid (show Many w1.heap.size w1 wc [.rd p st'] from Many.first (l := [_]) mc)
          replace mc := hid mc
          cases st' with
          | none =>
            obtain rfl := hfail.out rfl
            have hs := hid (fun n => sameV_yes (zeroV x.k) a none c 0 (wc.drewN n) (hown.heap rfl) (own_nil 0 _).isB)
            unfold cellsV zeroV str at hcell
            unfold agg zeroV str at hs
            have d0 := cell_of hcell 0
            have d1 := cell_of hcell 1
            have d2 := cell_of hcell 2
            have d3 := cell_of hcell 3
            have d4 := cell_of hcell 4
            have d5 := cell_of hcell 5
            have d6 := cell_of hcell 6
            simp at d0 d1 d2 d3 d4 d5 d6
            simp only [errP, doneP] at he he2 hd
            clear hown hcell hfail hnn hf mc
            go_wp2_with (go_at_call 20; refine he.out.mono ?_; rintro e w' ⟨rfl, rfl⟩)
            go_region_with (go_at_call 18; refine (hs.out _).mono ?_; rintro e w5 ⟨rfl, b5⟩; have m5 := hid ((mr.out.heap _).later b5); clear b5)
            all_goals
              go_wp2_with (first | (go_at_call 20; refine (he2.out _ m5.out).mono ?_; rintro e w6 ⟨rfl, rfl⟩) | (go_at_call 22; refine (hd.out _ m5.out).mono ?_; rintro e w6 ⟨rfl, rfl⟩))
              go_roundw
              case rel => exact ⟨k + 1, none, by omega, by go_num, ⟨true, rfl, fun _ => rfl⟩, trivial, by simp, m5.out⟩
              case measure => simp [intOf]; omega
          | some r =>
            obtain rfl : f = false := by
              cases f with
              | false => rfl
              | true => have := hnn.out (hf.out rfl); cases this
            simp only [errP] at he
            clear hown hcell hfail hnn hf
            go_wp2_with (go_at_call 20; refine he.out.mono ?_; rintro e w' ⟨rfl, rfl⟩)
            go_roundw
            case rel => exact ⟨k + 1, some r, by omega, by go_num, ⟨false, rfl, fun h => by cases h⟩, hbst'.out, hst', mr.out⟩
            case measure => simp [intOf]; omega
    · have hlt' : ¬ (k : Int) < (l.length : Int) := by omega
      replace mk := hid mk
      go_wp2
      go_ret
      exact ⟨rfl, low' B1.out mk.out.low⟩

theorem own : ownKnob Try.prog.godebug = none := by kernel_rfl
theorem laidOut : laidOutB Try.prog = true := by kernel_rfl

set_option maxRecDepth 100000 in
theorem lifted (os : Os) (started : os.Started) (H : Type) (enc : TypeId × Value → H) :
    ReturnsInHanded {} Try.checked os 8 .any (Rows.codecFailsSpec.pre6 enc Try.prog Try.f8 Rows.codecFailsRow.domain false) (Rows.codecFailsSpec.post enc Try.prog Try.f8 false true false false) := by
  refine returnsInHanded_of_change (C := Try.checked) own started (by kernel_rfl) Try.func8
    (ChangeSpec.witness6 (enc := enc) (C := Try.checked) false ⟨#[], #[.slice none 0 0, .slice none 0 0], []⟩ 8 (by kernel_rfl) (by kernel_rfl) (by kernel_rfl) (by kernel_rfl)) ?_
  intro W base args ds gs before hval0 hW hcnd _
  have hval : ∀ (j : Nat) t v, Try.f8.params[j]? = some t → args[j]? = some v → Value.okWide Try.prog W .any base t v := hval0
  have hW' := hW
  obtain ⟨p, q, hA0, hV, rfl, hfz, hnd⟩ := hW
  have hA : DataW.TrodAll enc Try.prog W 0 (fun _ => true) true Try.f8.params.toList args.toList ds p := hA0
  rw [Try.params8] at hA hval
  obtain ⟨v0, vs0, d0, ds0, p0, q0, hargs, rfl, rfl, h0, r0⟩ := trodAll_cons hA
  obtain ⟨v1, vs1, d1, ds1, p1, q1, rfl, rfl, rfl, h1, r1⟩ := trodAll_cons r0
  obtain ⟨rfl, rfl, rfl⟩ := trodAll_nil r1
  obtain rfl : args = #[v0, v1] := by cases args; simp_all
  obtain ⟨rfl, rfl⟩ := trodVars_none hV
  have k0 := h0
  have lt0 : ∀ x ∈ p0, x.block < W.heap.size := by obtain ⟨m, hm⟩ := k0; exact DataW.trod_lt m _ _ _ hm
  obtain ⟨z0, w0⟩ := open_bytes Try.underlying26 Try.underlying5 (by kernel_rfl) (hval 0 26 v0 rfl rfl) h0
  have k1 := h1
  have lt1 : ∀ x ∈ p1, x.block < W.heap.size := by obtain ⟨m, hm⟩ := k1; exact DataW.trod_lt m _ _ _ hm
  obtain ⟨l1, w1⟩ := open_asks (hval 1 35 v1 rfl rfl) h1
  clear hA0 hval0
  refine (walk v0 z0 v1 l1 W w0 w1).mono fun e W' ⟨he, bel⟩ => ?_
  subst he
  exact ⟨_, rfl, _, _, _, [], _, [], hW', trodAll_mk1 (shut_bool Try.underlying4 _), (trodAll_cons_mk (Below.trod laidOut (by kernel_rfl) (of_decide_eq_true (by kernel_rfl)) k0 bel lt0) (trodAll_cons_mk (Below.trod laidOut (by kernel_rfl) (of_decide_eq_true (by kernel_rfl)) k1 bel lt1) trodAll_mk0)), rfl, bel.frame _, fun h => by cases h⟩

theorem over : Rows.codecFailsRow.holds Try.pinned (OpenSpec.ofChange Rows.codecFailsSpec) :=
  OpenClaim.holds_of_wide 8 Try.f8 rfl rfl rfl rfl rfl rfl rfl ⟨rfl, rfl, rfl, rfl, rfl⟩ rfl rfl rfl rfl rfl (by kernel_rfl) Try.func8 (by kernel_rfl)
    (of_decide_eq_true (by kernel_rfl)) (by unfold Func.isWrapper; first | (rw [if_pos (by decide +kernel)]; kernel_rfl) | (rw [if_neg (by decide +kernel)]; exact ⟨rfl, rfl⟩))
    (fun os started H enc _ => lifted os started H enc)

theorem proved : Rows.CodecFailsSaid := over
#print axioms proved

end Go.Proofs.Ythhfahnlcoiblaa.codecFails
