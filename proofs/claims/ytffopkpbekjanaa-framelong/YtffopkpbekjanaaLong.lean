/- For any slice of bytes and any number the law FrameLong of the program returns true and leaves the bytes as they were: a frame has four bytes more than its record, and one, two or three for the length. No condition. -/
import Derived.Test.YtffopkpbekjanaaAwake
import Derived.Test.YtffopkpbekjanaaOpen
import Derived.Deep.CutRange
namespace Go.Proofs.Ytffopkpbekjanaa.frameLong
open Go.ChangeShapes Go.WideShapes Go.ChangeAt Go.RowKit
set_option linter.unusedVariables false

theorem below_drewN {w w' : World} {B n : Nat} (h : Below B w w') : Below B w (w'.drewN n) := h.trans ⟨rfl, rfl, rfl, Nat.le_refl _, fun _ _ => rfl⟩
theorem fr_mid (p : List Int) (hp : p.length < 2097152) : (fr p).length = wide p.length + p.length + 4 ∧ ((fr p).drop (wide p.length)).take p.length = p := by
  refine ⟨by rw [fr_len, vi_len hp], ?_⟩
  unfold fr
  rw [List.append_assoc, ← vi_len hp, List.drop_left' rfl, List.take_left' rfl]
set_option maxHeartbeats 4000000 in
theorem walk (v0 : Value) (z0 : List Int) (a1 : Int) (w : World) (h0 : IsB w v0 z0) (h1 : (Lit.int .i64 a1).wf = true) :
    Calls Try.prog 8 #[v0, .int .i64 a1] w fun e w' => e = .returned (.bool true) ∧ Below w.heap.size w w' := by
  obtain ⟨a, c, rfl⟩ := h0.slice
  have hb0 := h0.bound
  simp [Lit.wf, IntKind.min, IntKind.max, IntKind.bits, IntKind.signed] at h1
  by_cases hl : 30000 < z0.length
  · have hl' : (30000 : Int) < (z0.length : Int) := by omega
    clear h0
    go_enter Try.func8, Try.ntmps8
    go_wp2_with (go_at_call 18; refine (awake_any _).mono ?_; rintro e w1 ⟨rfl, hb⟩)
    go_ret
    exact ⟨rfl, hb⟩
  have hl' : ¬ (30000 : Int) < (z0.length : Int) := by omega
  by_cases hn : a1 < 0
  · clear h0
    go_enter Try.func8, Try.ntmps8
    go_wp2_with (go_at_call 18; refine (awake_any _).mono ?_; rintro e w1 ⟨rfl, hb⟩)
    go_ret
    exact ⟨rfl, hb⟩
  by_cases hm : 40000 < a1
  · clear h0
    go_enter Try.func8, Try.ntmps8
    go_wp2_with (go_at_call 18; refine (awake_any _).mono ?_; rintro e w1 ⟨rfl, hb⟩)
    go_ret
    exact ⟨rfl, hb⟩
  obtain ⟨k, rfl⟩ : ∃ k : Nat, a1 = (k : Int) := ⟨a1.toNat, by omega⟩
  replace h0 := hid h0
  go_enter Try.func8, Try.ntmps8
  go_wp2_with fail
  refine (awake_any _).mono ?_
  rintro e w9 ⟨rfl, hb9⟩
  have h9 := hid (h0.out.below hb9)
  have B9 := hid hb9
  clear h0 hb9
  go_wp2_with fail
  refine (copy_any _ _ _ h9.out (by omega)).mono ?_
  rintro e w1 ⟨b1, c1, rfl, o1, l1⟩
  obtain ⟨b2, c2, w2, hrun, o2, g2⟩ := zeros_run o1 k (by omega) l1.size
  have l2 := hid (B9.out.trans ((l1.trans (app_low o1 l1.size g2)).mono B9.out.size))
  obtain ⟨al, hal⟩ : ∃ al, al = z0 ++ List.replicate k 0 := ⟨_, rfl⟩
  have hlen : z0.length + k = al.length := by rw [hal]; simp
  rw [← hal] at o2
  rw [hlen] at hrun o2
  have hll : al.length ≤ 100000 := by omega
  replace o2 := hid o2
  clear o1 l1 g2 hal B9 h9 hlen
  go_wp2_with (at_builtin; refine Lib.wpList_append_run _ rfl _ _ _ _ rfl _ _ rfl rfl _ _ (hrun _) ?_)
  by_cases hlong : 65536 < al.length
  · have hlong' : (65536 : Int) < (al.length : Int) := by omega
    have h128 : (128 : Int) ≤ (al.length : Int) := by omega
    have h16k : (16384 : Int) ≤ (al.length : Int) := by omega
    refine (encode_long _ _ _ o2.out.isB hlong).mono ?_
    rintro e w4 ⟨rfl, rfl⟩
    go_wp2
    go_ret
    exact ⟨rfl, l2.out⟩
  · have hlong' : ¬ (65536 : Int) < (al.length : Int) := by omega
    refine (encode_any _ _ _ o2.out.isB (by omega)).mono ?_
    rintro e w4 ⟨b4, c4, rfl, o4, l4⟩
    have o24 := hid (o2.out.below l4)
    have l24 := hid (low' l2.out l4)
    obtain ⟨hfl, hmid⟩ := fr_mid al (by omega)
    have o4b := o4.isB
    obtain ⟨hL, hLc, hcm⟩ := o4b.bound
    obtain ⟨g, off, rfl, _⟩ := (o4b.at).2.2.2 (by omega)
    obtain ⟨L, hLL⟩ : ∃ L, L = (fr al).length := ⟨_, rfl⟩
    have hP := o4b.part (wide al.length) (wide al.length + al.length) (by omega) (by omega) al.length (c4 - wide al.length) (by omega) (by omega) (by unfold maxLen; omega)
    rw [hmid] at hP
    rw [← hLL] at hfl hLc ⊢
    have HP := hid hP
    clear o2 l2 l4 o4 o4b hmid hP hL hLL hrun
    unfold wide at HP hfl
    by_cases h1 : al.length < 128
    · have h1' : Hid (decide ((128 : Int) ≤ (al.length : Int)) = false) := by show _ = _; simp; omega
      have h2' : Hid (decide ((16384 : Int) ≤ (al.length : Int)) = false) := by show _ = _; simp; omega
      have ft : ((L : Int) == 1 + (al.length : Int) + 4) = true := by
        rw [if_pos h1] at hfl
        simp
        omega
      have hLn : (1 : Int) + (al.length : Int) ≤ (L : Int) := by
        rw [if_pos h1] at hfl
        omega
      rw [if_pos h1] at HP
      have hc4 : ¬ c4 = 1 ∧ ¬ c4 = 2 ∧ ¬ c4 = 3 := by omega
      obtain ⟨hc41, hc42, hc43⟩ := hc4
      clear hfl h1 hll hl hn hm hlong hl' hb0
      go_upto_if 34 with fail
      rw [h1'.out]
      refine wp_cond_false rfl (wp_skip ?_)
      rename_i K1 hK1
      refine hK1 _ _ ?_
      clear hK1
      go_upto_if 37 with fail
      rw [h2'.out]
      refine wp_cond_false rfl (wp_skip ?_)
      rename_i K2 hK2
      refine hK2 _ _ ?_
      clear hK2
      go_wp2_with fail
      refine (same_any _ _ _ _ _ HP.out o24.out.isB).mono ?_
      rintro e w5 ⟨rfl, n, rfl⟩
      go_wp2
      go_ret
      exact ⟨rfl, below_drewN l24.out⟩
    · have h1' : (128 : Int) ≤ (al.length : Int) := by omega
      by_cases h2 : al.length < 16384
      · have h2' : Hid (decide ((16384 : Int) ≤ (al.length : Int)) = false) := by show _ = _; simp; omega
        have ft : ((L : Int) == 2 + (al.length : Int) + 4) = true := by
          rw [if_neg h1, if_pos h2] at hfl
          simp
          omega
        have hLn : (2 : Int) + (al.length : Int) ≤ (L : Int) := by
          rw [if_neg h1, if_pos h2] at hfl
          omega
        rw [if_neg h1, if_pos h2] at HP
        have hc4 : ¬ c4 = 1 ∧ ¬ c4 = 2 ∧ ¬ c4 = 3 := by omega
        obtain ⟨hc41, hc42, hc43⟩ := hc4
        clear hfl h1 h2 hll hl hn hm hlong hl' hb0
        go_upto_if 37 with fail
        rw [h2'.out]
        refine wp_cond_false rfl (wp_skip ?_)
        rename_i K2 hK2
        refine hK2 _ _ ?_
        clear hK2
        go_wp2_with fail
        refine (same_any _ _ _ _ _ HP.out o24.out.isB).mono ?_
        rintro e w5 ⟨rfl, n, rfl⟩
        go_wp2
        go_ret
        exact ⟨rfl, below_drewN l24.out⟩
      · have h2' : (16384 : Int) ≤ (al.length : Int) := by omega
        have ft : ((L : Int) == 3 + (al.length : Int) + 4) = true := by
          rw [if_neg h1, if_neg h2] at hfl
          simp
          omega
        have hLn : (3 : Int) + (al.length : Int) ≤ (L : Int) := by
          rw [if_neg h1, if_neg h2] at hfl
          omega
        rw [if_neg h1, if_neg h2] at HP
        have hc4 : ¬ c4 = 1 ∧ ¬ c4 = 2 ∧ ¬ c4 = 3 := by omega
        obtain ⟨hc41, hc42, hc43⟩ := hc4
        clear hfl
        go_wp2_with fail
        refine (same_any _ _ _ _ _ HP.out o24.out.isB).mono ?_
        rintro e w5 ⟨rfl, n, rfl⟩
        go_wp2
        go_ret
        exact ⟨rfl, below_drewN l24.out⟩

theorem own : ownKnob Try.prog.godebug = none := by kernel_rfl
theorem laidOut : laidOutB Try.prog = true := by kernel_rfl

set_option maxRecDepth 100000 in
theorem lifted (os : Os) (started : os.Started) (H : Type) (enc : TypeId × Value → H) :
    ReturnsInHanded {} Try.checked os 8 .any (Rows.frameLongSpec.pre6 enc Try.prog Try.f8 Rows.frameLongRow.domain false) (Rows.frameLongSpec.post enc Try.prog Try.f8 false true false false) := by
  refine returnsInHanded_of_change (C := Try.checked) own started (by kernel_rfl) Try.func8
    (ChangeSpec.witness6 (enc := enc) (C := Try.checked) false ⟨#[], #[.slice none 0 0, .int .i64 0], []⟩ 8 (by kernel_rfl) (by kernel_rfl) (by kernel_rfl) (by kernel_rfl)) ?_
  intro W base args ds gs before hval0 hW hcnd _
  have hval : ∀ (j : Nat) t v, Try.f8.params[j]? = some t → args[j]? = some v → Value.okWide Try.prog W .any base t v := hval0
  have hW' := hW
  obtain ⟨p, q, hA0, hV, rfl, hfz, hnd⟩ := hW
  have hA : DataW.TrodAll enc Try.prog W 0 (fun _ => true) true Try.f8.params.toList args.toList ds p := hA0
  rw [Try.params8] at hA hval
  obtain ⟨v0, vs0, d0, ds0, p0, q0, hargs, rfl, rfl, h0, r0⟩ := trodAll_cons hA
  obtain ⟨v1, vs1, d1, ds1, p1, q1, rfl, rfl, rfl, h1, r1⟩ := trodAll_cons r0
  obtain ⟨rfl, rfl, rfl⟩ := trodAll_nil r1
  obtain rfl : args = #[v0, v1] := by cases args; simp_all
  obtain ⟨rfl, rfl⟩ := trodVars_none hV
  have k0 := h0
  have lt0 : ∀ x ∈ p0, x.block < W.heap.size := by obtain ⟨m, hm⟩ := k0; exact DataW.trod_lt m _ _ _ hm
  obtain ⟨z0, w0⟩ := open_bytes Try.underlying22 Try.underlying5 (by kernel_rfl) (hval 0 22 v0 rfl rfl) h0
  obtain ⟨a1, rfl, rfl, rfl, w1⟩ := open_int Try.underlying3 (hval 1 3 v1 rfl rfl) h1
  clear hA0 hval0
  refine (walk v0 z0 a1 W w0 w1).mono fun e W' ⟨he, bel⟩ => ?_
  subst he
  exact ⟨_, rfl, _, _, _, [], _, [], hW', trodAll_mk1 (shut_bool Try.underlying4 _), (trodAll_cons_mk (Below.trod laidOut (by kernel_rfl) (of_decide_eq_true (by kernel_rfl)) k0 bel lt0) (trodAll_cons_mk (shut_int Try.underlying3 w1) trodAll_mk0)), rfl, bel.frame _, fun h => by cases h⟩

theorem over : Rows.frameLongRow.holds Try.pinned (OpenSpec.ofChange Rows.frameLongSpec) :=
  OpenClaim.holds_of_wide 8 Try.f8 rfl rfl rfl rfl rfl rfl rfl ⟨rfl, rfl, rfl, rfl, rfl⟩ rfl rfl rfl rfl rfl (by kernel_rfl) Try.func8 (by kernel_rfl)
    (of_decide_eq_true (by kernel_rfl)) (by unfold Func.isWrapper; first | (rw [if_pos (by decide +kernel)]; kernel_rfl) | (rw [if_neg (by decide +kernel)]; exact ⟨rfl, rfl⟩))
    (fun os started H enc _ => lifted os started H enc)

theorem proved : Rows.FrameLongSaid := over
#print axioms proved

end Go.Proofs.Ytffopkpbekjanaa.frameLong
