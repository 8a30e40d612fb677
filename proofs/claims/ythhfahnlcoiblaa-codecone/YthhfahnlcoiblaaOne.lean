/- For any bytes and any questions the law CodecOne of the program returns true and leaves them as they were: what is read without failing, with nothing left, is written as just those bytes by the same script. No condition. -/
import Derived.Test.YthhfahnlcoiblaaO3
namespace Go.Proofs.Ythhfahnlcoiblaa.codecOne
open Go.ChangeShapes Go.WideShapes Go.ChangeAt Go.RowKit
set_option linter.unusedVariables false

def Inv (z zs : List Int) : St → Prop
  | none => True
  | some r => z = zs ++ r
set_option maxHeartbeats 4000000 in
theorem walk (v0 : Value) (z : List Int) (v1 : Value) (l : List Aq) (w : World) (h0 : IsB w v0 z) (h1 : IsQs w v1 l) :
    Calls Try.prog 7 #[v0, v1] w fun e w' => e = .returned (.bool true) ∧ Below w.heap.size w w' := by
  obtain ⟨a0, c0, rfl⟩ := h0.slice
  obtain ⟨a1, c1, rfl⟩ := h1.slice
  obtain ⟨-, hb01, hb02⟩ := h0.bound
  have hml := h1.1
  unfold maxLen at hml
  replace h0 := hid h0
  replace h1 := hid h1
  go_enter Try.func7, Try.ntmps7
  go_wp2_with fail
  refine (awake_any w).mono ?_
  rintro e w1 ⟨rfl, b1⟩
  have B1 := hid b1
  clear b1
  by_cases hz : 20000 < z.length
  · have hz' : (20000 : Int) < (z.length : Int) := by omega
    go_wp2
    go_ret
    exact ⟨rfl, B1.out⟩
  have hz' : ¬ (20000 : Int) < (z.length : Int) := by omega
  by_cases hl : 300 < l.length
  · have hl' : (300 : Int) < (l.length : Int) := by omega
    go_wp2
    go_ret
    exact ⟨rfl, B1.out⟩
  have hl' : ¬ (300 : Int) < (l.length : Int) := by omega
  replace h1 := hid (h1.out.below B1.out)
  replace h0 := hid (h0.out.below B1.out)
  go_wp2_with fail
  refine (m_over (Many.nil w1) _ h0.out (by omega)).mono ?_
  rintro e w2 ⟨p, rfl, m2⟩
  replace m2 := hid m2
  go_wp2_with fail
  refine (m_new m2.out).mono ?_
  rintro e w3 ⟨pw, rfl, m3⟩
  have m3' : Many w1.heap.size w1 w3 [.rd p (some z), .wr pw []] := m3
  replace m3' := hid m3'
  clear m2 m3
  go_wp2
  go_loopw [7] (fun iv wr => ∃ (k : Nat) (st : St) (zs : List Int), k ≤ l.length ∧ iv = .int .i64 (k : Int) ∧ Inv z zs st ∧ zs.length ≤ 40010 * k ∧ Bst st ∧ (st.getD []).length ≤ 20000 ∧ Many w1.heap.size w1 wr [.rd p st, .wr pw zs]) (fun iv _ => l.length - (intOf iv).toNat)
  case atStart => exact ⟨0, some z, [], by omega, rfl, rfl, by simp, h0.out.byt, by show z.length ≤ _; omega, m3'.out⟩
  case round =>
    clear m3'
    obtain ⟨k, st, zs, hk, rfl, hinv, hzl, hbst, hst, mk⟩ := hrel
    by_cases hlt : k < l.length
    · have hlt' : (k : Int) < (l.length : Int) := by omega
      obtain ⟨b, off, rfl, hok, hq⟩ := h1.out.get k hlt
      obtain ⟨q0, q1⟩ := hq wr mk.low
      have hq' := hid hq
      have hok1 := hok.k
      obtain ⟨hok2, hok3⟩ := hok.m
      clear hq hok
      generalize l[k] = x at *
      have hbl := World.block_lt_of_cell? wr _ q0
      simp only at hbl
      replace hinv := hid hinv
      replace hbst := hid hbst
      by_cases h5 : 5 < x.k
      · have h5' : ¬ (x.k : Int) ≤ 5 := by omega
        replace mk := hid mk
        go_wp2
        go_roundw
        case rel => exact ⟨k + 1, st, zs, by omega, by go_num, hinv.out, by omega, hbst.out, hst, mk.out⟩
        case measure => simp [intOf]; omega
      · have h5' : (x.k : Int) ≤ 5 := by omega
        have hdn := hid (m_done mk 0 rfl)
        by_cases hd0 : doneP st = 0
        · rw [hd0] at hdn
          replace mk := hid mk
          clear hd0
          go_wp2_with (go_at_call 22; refine hdn.out.mono ?_; rintro e w' ⟨rfl, rfl⟩)
          go_roundw
          case rel => exact ⟨k + 1, st, zs, by omega, by go_num, hinv.out, by omega, hbst.out, hst, mk.out⟩
          case measure => simp [intOf]; omega
        · have hd60 : doneP st = 60 := by
            match st with
            | none => rfl
            | some [] => exact (hd0 rfl).elim
            | some (_ :: _) => rfl
          rw [hd60] at hdn
          have hrd := hid (fun n => m_read (mk.heap n) 0 rfl x.k x.m (by omega) hok3 (rpiece_short st (by omega)))
          have hbst' := readP_bst x.k x.m hbst.out
          have hst' := Nat.le_trans (readP_rest x.k x.m st) hst
          have hyl := readP_l x.k x.m st
          have hyok := readP_ok x.k x.m hbst.out hok1 hok3
          have hinv' : Inv z (zs ++ form (readP x.k x.m st).1) (readP x.k x.m st).2 := by
            cases hr : (readP x.k x.m st).2 with
            | none => trivial
            | some r =>
              cases st with
              | none => rw [readP_none] at hr; cases hr
              | some t =>
                have e1 := read_one hbst.out hr (by omega)
                have e2 : z = zs ++ t := hinv.out
                show z = _
                rw [List.append_assoc, ← e1]; exact e2
          unfold MRead at hrd
          generalize readP x.k x.m st = r at *
          obtain ⟨y, st'⟩ := r
          simp only at hrd hbst' hst' hyl hyok hinv'
          have hfl := form_len hyok (by omega) (by omega)
          have hwr := hid (fun W a c (m : Many w1.heap.size w1 W [.rd p st', .wr pw zs, .by_ (.slice a y.l.length c) y.l]) => m_writeBy m 1 2 rfl y _ rfl (by decide) hyok (by omega) (by omega) (by omega))
          replace mk := hid mk
          replace hbst' := hid hbst'
          replace hinv' := hid hinv'
          clear hd0 hd60 hyok hbst hinv
          go_wp2_with (go_at_call 22; refine hdn.out.mono ?_; rintro e w' ⟨rfl, rfl⟩)
          go_region_with (first | (go_at_call 17; refine (hrd.out _).mono ?_; rintro e w4 ⟨a, c, he, m4⟩; subst he; replace m4 := hid m4) | (go_at_call 12; refine (hwr.out _ _ _ m4.out).mono ?_; rintro e w5 ⟨rfl, m5⟩; replace m5 := hid m5))
          all_goals
            go_wp2
            go_roundw
            case rel => exact ⟨k + 1, st', zs ++ form y, by omega, by go_num, hinv'.out, by simp; omega, hbst'.out, hst', Many.first (l := [_, _]) m5.out⟩
            case measure => simp [intOf]; omega
    · have hlt' : ¬ (k : Int) < (l.length : Int) := by omega
      have hdn := hid (m_done mk 0 rfl)
      have hout := hid (m_out mk 1 rfl (by omega))
      replace mk := hid mk
      replace hinv := hid hinv
      clear hbst
      by_cases hd0 : doneP st = 0
      · have hzz : z = zs := by
          match st, hd0, hinv with
          | some [], _, h => have := h.out; simpa [Inv] using this
          | some (_ :: _), h, _ => cases h
        subst hzz
        rw [hd0] at hdn
        clear hd0
        go_wp2_with (go_at_call 22; refine hdn.out.mono ?_; rintro e w' ⟨rfl, rfl⟩)
        refine hout.out.mono ?_
        rintro e w5 ⟨a5, c5, rfl, o5, m5, -⟩
        have i0 := hid (h0.out.below m5.low)
        replace m5 := hid m5
        replace o5 := hid o5
        go_wp2_with fail
        refine (same_any _ _ _ _ _ o5.out.isB i0.out).mono ?_
        rintro e w6 ⟨rfl, n, rfl⟩
        go_wp2
        go_ret
        exact ⟨by simp, low' B1.out ((m5.out.heap n).low)⟩
      · have hd60 : doneP st = 60 := by
          match st with
          | none => rfl
          | some [] => exact (hd0 rfl).elim
          | some (_ :: _) => rfl
        rw [hd60] at hdn
        clear hd0 hd60
        go_wp2_with (go_at_call 22; refine hdn.out.mono ?_; rintro e w' ⟨rfl, rfl⟩)
        go_ret
        exact ⟨rfl, low' B1.out mk.out.low⟩

theorem own : ownKnob Try.prog.godebug = none := by kernel_rfl
theorem laidOut : laidOutB Try.prog = true := by kernel_rfl

set_option maxRecDepth 100000 in
theorem lifted (os : Os) (started : os.Started) (H : Type) (enc : TypeId × Value → H) :
    ReturnsInHanded {} Try.checked os 7 .any (Rows.codecOneSpec.pre6 enc Try.prog Try.f7 Rows.codecOneRow.domain false) (Rows.codecOneSpec.post enc Try.prog Try.f7 false true false false) := by
  refine returnsInHanded_of_change (C := Try.checked) own started (by kernel_rfl) Try.func7
    (ChangeSpec.witness6 (enc := enc) (C := Try.checked) false ⟨#[], #[.slice none 0 0, .slice none 0 0], []⟩ 8 (by kernel_rfl) (by kernel_rfl) (by kernel_rfl) (by kernel_rfl)) ?_
  intro W base args ds gs before hval0 hW hcnd _
  have hval : ∀ (j : Nat) t v, Try.f7.params[j]? = some t → args[j]? = some v → Value.okWide Try.prog W .any base t v := hval0
  have hW' := hW
  obtain ⟨p, q, hA0, hV, rfl, hfz, hnd⟩ := hW
  have hA : DataW.TrodAll enc Try.prog W 0 (fun _ => true) true Try.f7.params.toList args.toList ds p := hA0
  rw [Try.params7] at hA hval
  obtain ⟨v0, vs0, d0, ds0, p0, q0, hargs, rfl, rfl, h0, r0⟩ := trodAll_cons hA
  obtain ⟨v1, vs1, d1, ds1, p1, q1, rfl, rfl, rfl, h1, r1⟩ := trodAll_cons r0
  obtain ⟨rfl, rfl, rfl⟩ := trodAll_nil r1
  obtain rfl : args = #[v0, v1] := by cases args; simp_all
  obtain ⟨rfl, rfl⟩ := trodVars_none hV
  have k0 := h0
  have lt0 : ∀ x ∈ p0, x.block < W.heap.size := by obtain ⟨m, hm⟩ := k0; exact DataW.trod_lt m _ _ _ hm
  obtain ⟨z0, w0⟩ := open_bytes Try.underlying26 Try.underlying5 (by kernel_rfl) (hval 0 26 v0 rfl rfl) h0
  have k1 := h1
  have lt1 : ∀ x ∈ p1, x.block < W.heap.size := by obtain ⟨m, hm⟩ := k1; exact DataW.trod_lt m _ _ _ hm
  obtain ⟨l1, w1⟩ := open_asks (hval 1 35 v1 rfl rfl) h1
  clear hA0 hval0
  refine (walk v0 z0 v1 l1 W w0 w1).mono fun e W' ⟨he, bel⟩ => ?_
  subst he
  exact ⟨_, rfl, _, _, _, [], _, [], hW', trodAll_mk1 (shut_bool Try.underlying4 _), (trodAll_cons_mk (Below.trod laidOut (by kernel_rfl) (of_decide_eq_true (by kernel_rfl)) k0 bel lt0) (trodAll_cons_mk (Below.trod laidOut (by kernel_rfl) (of_decide_eq_true (by kernel_rfl)) k1 bel lt1) trodAll_mk0)), rfl, bel.frame _, fun h => by cases h⟩

theorem over : Rows.codecOneRow.holds Try.pinned (OpenSpec.ofChange Rows.codecOneSpec) :=
  OpenClaim.holds_of_wide 7 Try.f7 rfl rfl rfl rfl rfl rfl rfl ⟨rfl, rfl, rfl, rfl, rfl⟩ rfl rfl rfl rfl rfl (by kernel_rfl) Try.func7 (by kernel_rfl)
    (of_decide_eq_true (by kernel_rfl)) (by unfold Func.isWrapper; first | (rw [if_pos (by decide +kernel)]; kernel_rfl) | (rw [if_neg (by decide +kernel)]; exact ⟨rfl, rfl⟩))
    (fun os started H enc _ => lifted os started H enc)

theorem proved : Rows.CodecOneSaid := over
#print axioms proved

end Go.Proofs.Ythhfahnlcoiblaa.codecOne
