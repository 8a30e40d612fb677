/- For any slice of slices of bytes and any two numbers the law FrameTorn of the program returns true and leaves the bytes as they were: of a row of frames that is cut anywhere, just those are told that are whole, and no noughts that stand behind the last one. No condition. -/
import Derived.Test.YtffopkpbekjanaaAwake
import Derived.Test.YtffopkpbekjanaaOpen3
import Derived.Test.YtffopkpbekjanaaFd
import Derived.Test.YtffopkpbekjanaaToP
namespace Go.Proofs.Ytffopkpbekjanaa.frameTorn
open Go.ChangeShapes Go.WideShapes Go.ChangeAt Go.RowKit
set_option linter.unusedVariables false

theorem isP_take {w : World} {a : Option Addr} {n c : Nat} {l : List (List Int)} (h : IsP w (.slice a n c) l) (k : Nat) (hk : k ≤ l.length) : IsP w (.slice a k c) (l.take k) := by
  obtain ⟨h1, a', c', e, h3⟩ := h
  cases e
  have hl : (l.take k).length = k := by simp; omega
  refine ⟨by omega, a, c, by rw [hl], ?_⟩
  rcases h3 with rfl | ⟨b, off, rfl, hc⟩
  · left; simp
  · right
    refine ⟨b, off, rfl, fun i hi => ?_⟩
    rw [hl] at hi
    obtain ⟨u, hu, hB⟩ := hc i (by omega)
    refine ⟨u, hu, ?_⟩
    have : (l.take k).getD i [] = l.getD i [] := by simp [List.getD, List.getElem?_take_of_lt hi]
    rw [this]; exact hB
theorem isB_take {w : World} {a : Option Addr} {n c : Nat} {zs : List Int} (h : IsB w (.slice a n c) zs) (k : Nat) (hk : k ≤ n) : IsB w (.slice a k c) (zs.take k) := by
  obtain ⟨h1, h2, h3, h4⟩ := h.at
  have hl : (zs.take k).length = k := by simp; omega
  refine ⟨by omega, h.byt.take k, a, c, by rw [hl], by omega, h3, ?_⟩
  by_cases h0 : k = 0
  · left; simp [h0]
  · right
    obtain ⟨b, off, rfl, hc⟩ := h4 (by omega)
    refine ⟨b, off, rfl, fun i hi => ?_⟩
    rw [hl] at hi
    rw [hc i (by omega)]
    simp [List.getD, List.getElem?_take_of_lt hi]
theorem isP_byt {w : World} {v : Value} {l : List (List Int)} (h : IsP w v l) : ∀ p ∈ l, Byt p := by
  intro p hp
  obtain ⟨i, hi, rfl⟩ := List.getElem_of_mem hp
  obtain ⟨h1, a, c, rfl, h3⟩ := h
  rcases h3 with rfl | ⟨b, off, rfl, hc⟩
  · simp at hi
  · obtain ⟨u, _, hB⟩ := hc i hi
    have := hB.byt
    simpa [List.getD, List.getElem?_eq_getElem hi] using this
theorem big_no {l : List (List Int)} (h : big l = false) : l.length ≤ 100 ∧ l.flatten.length ≤ 20000 ∧ ∀ p ∈ l, p.length ≤ 20000 := by
  simp only [big, Bool.or_eq_false_iff, decide_eq_false_iff_not] at h
  refine ⟨by omega, by omega, fun p hp => ?_⟩
  obtain ⟨i, hi, rfl⟩ := List.getElem_of_mem hp
  have := piece_le l i hi
  simp [List.getD, List.getElem?_eq_getElem hi] at this
  have h2 := h.2
  simp at h2
  omega
theorem ends_at {w : World} {B : Nat} {ea : Option Addr} {n ec : Nat} {l : List (List Int)} (h : w.ownsRow B 3 1 (.slice ea n ec) n (endsOf l n)) (hn : 0 < n) : ∃ g, ea = some ⟨g, 0, none⟩ ∧ g < w.heap.size ∧ n ≤ ec ∧ ec ≤ 9223372036854775807 ∧ ∀ k, k < n → w.cell? ⟨g, k, none⟩ = some (.int .i64 ((rows (l.take (k + 1))).length : Int)) := by
  rcases h.2 with ⟨e, h0⟩ | ⟨g, cap, cur, e, hB, hg, h1, h2, h3, h4⟩
  · omega
  · cases e
    unfold maxLen at h2
    refine ⟨g, rfl, lt_of_block hg, h1, h2, fun k hk => ?_⟩
    have := h.cells (g := g) rfl k (.int .i64 ((rows (l.take (k + 1))).length : Int)) (by unfold endsOf; simp [List.getElem?_map, List.getElem?_range hk])
    rw [Addr.add_lit, Nat.zero_add] at this
    exact this
set_option maxHeartbeats 4000000 in
theorem walk (v0 : Value) (l : List (List Int)) (a1 a2 : Int) (w : World) (h0 : IsP w v0 l) (hcap : InCap v0 l) (h1 : (Lit.int .i64 a1).wf = true) (h2 : (Lit.int .i64 a2).wf = true) :
    Calls Try.prog 5 #[v0, .int .i64 a1, .int .i64 a2] w fun e w' => e = .returned (.bool true) ∧ Below w.heap.size w w' := by
  obtain ⟨a, c, rfl, hlc, hcm⟩ := hcap
  unfold maxLen at hcm
  simp [Lit.wf, IntKind.min, IntKind.max, IntKind.bits, IntKind.signed] at h1 h2
  replace h0 := hid h0
  have hgr := hid (fun (w' : World) (hb : Below w.heap.size w w') => great_any _ _ _ (h0.out.below hb))
  cases hbig : big l
  · rw [hbig] at hgr
    obtain ⟨h100, h20k, hpl⟩ := big_no hbig
    have hrl := rows_le l h20k
    have hB := hid (isP_byt h0.out)
    by_cases hn : a2 < 0
    · go_enter Try.func5, Try.ntmps5
      go_wp2_with (first | (go_at_call 18; refine (awake_any _).mono ?_; rintro e w1 ⟨rfl, hb⟩) | (go_at_call 19; refine (hgr.out _ hb).mono ?_; rintro e w2 ⟨rfl, rfl⟩))
      go_ret
      exact ⟨rfl, hb⟩
    by_cases hm : 1000 < a2
    · go_enter Try.func5, Try.ntmps5
      go_wp2_with (first | (go_at_call 18; refine (awake_any _).mono ?_; rintro e w1 ⟨rfl, hb⟩) | (go_at_call 19; refine (hgr.out _ hb).mono ?_; rintro e w2 ⟨rfl, rfl⟩))
      go_ret
      exact ⟨rfl, hb⟩
    obtain ⟨m, rfl⟩ : ∃ m : Nat, a2 = (m : Int) := ⟨a2.toNat, by omega⟩
    go_enter Try.func5, Try.ntmps5
    go_wp2_with fail
    refine (awake_any _).mono ?_
    rintro e w1 ⟨rfl, b1⟩
    have B1 := hid b1
    clear b1
    go_wp2_with fail
    refine (hgr.out _ B1.out).mono ?_
    rintro e w1' ⟨rfl, hw⟩
    subst hw
    have hm' : decide ((1000 : Int) < (m : Int)) = false := by simp only [decide_eq_false_iff_not]; omega
    have hn' : decide ((m : Int) < 0) = false := by simp only [decide_eq_false_iff_not]; omega
    go_wp2_with fail
    refine (framed_any _ _ _ (h0.out.below B1.out) hbig).mono ?_
    rintro e w2 ⟨fa, fc, ea, ec, rfl, o2, e2, b2⟩
    have B2 := hid (low' B1.out b2)
    have O2 := hid (o2.base B1.out.size)
    have E2 := hid (ownsRow_base e2 fun j hj => Nat.le_trans B1.out.size (e2.lt j hj).1)
    clear o2 e2 b2 B1 hgr
    have h65 : ∀ p ∈ l, p.length ≤ 65536 := fun p hp => by have := hpl p hp; omega
    replace h65 := hid h65
    replace hpl := hid hpl
    have ht1 := hid (tells_yes _ _ _ _ _ _ O2.out.isB (h0.out.below B2.out) (all_of_rows h65.out) (by omega))
    go_wp2_with fail
    refine ht1.out.mono ?_
    rintro e w3 ⟨rfl, b3⟩
    have B3 := hid (low' B2.out b3)
    have O3 := hid (O2.out.below b3)
    have E3 := hid (ownsRow_block E2.out fun j hj => b3.block j (E2.out.lt j hj).2)
    clear b3 B2 O2 E2 ht1
    obtain ⟨L, hL⟩ : ∃ L, L = (rows l).length := ⟨_, rfl⟩
    rw [← hL] at O3 hrl ⊢
    replace hL := hid hL
    by_cases hc0 : a1 < 0
    · go_wp2
      go_ret
      exact ⟨rfl, B3.out⟩
    by_cases hc1 : (L : Int) < a1
    · go_wp2
      go_ret
      exact ⟨rfl, B3.out⟩
    obtain ⟨cut, rfl⟩ : ∃ k : Nat, a1 = (k : Int) := ⟨a1.toNat, by omega⟩
    have hq0 : decide ((cut : Int) < 0) = false := by simp only [decide_eq_false_iff_not]; omega
    have hq1 : decide ((L : Int) < (cut : Int)) = false := by simp only [decide_eq_false_iff_not]; omega
    have hcL : cut ≤ L := by omega
    have HR := hid (fun k => rows_take_le l k)
    obtain ⟨_, hLf, hfm⟩ := O3.out.isB.bound
    have hcf : (cut : Int) ≤ (fc : Int) := by omega
    clear hc0 hc1
    go_wp2_with fail
    go_loop [10, 11] (fun kv wv => ∃ k : Nat, k ≤ l.length ∧ kv = .int .i64 (k : Int) ∧ (rows (l.take k)).length ≤ cut ∧ wv = .int .i64 ((rows (l.take k)).length : Int)) (fun kv _ => l.length - (intOf kv).toNat)
    case atStart => exact ⟨0, by omega, rfl, by simp [rows], by simp [rows]⟩
    case round =>
      obtain ⟨k, hk, rfl, hkc0, rfl⟩ := hrel
      by_cases hlt : k < l.length
      · have hlt' : (k : Int) < (l.length : Int) := by omega
        obtain ⟨g, rfl, hg, hle, hec, hcell⟩ := ends_at E3.out (by omega)
        have hck := hcell k hlt
        have hrk := HR.out (k + 1)
        clear hcell
        by_cases hge : (rows (l.take (k + 1))).length ≤ cut
        · have hge' : ((rows (l.take (k + 1))).length : Int) ≤ (cut : Int) := by omega
          generalize hs1 : (rows (l.take (k + 1))).length = s1 at *
          replace hs1 := hid hs1
          go_wp2
          exact ⟨⟨k + 1, by omega, by go_num, by rw [hs1.out]; exact hge, by rw [hs1.out]⟩, by simp [intOf]; omega⟩
        · have hge' : ¬ ((rows (l.take (k + 1))).length : Int) ≤ (cut : Int) := by omega
          have hfin : Hid (k = l.length ∨ cut < (rows (l.take (k + 1))).length) := .inr (by omega)
          generalize (rows (l.take (k + 1))).length = s1 at hck hge' hrk
          go_wp2_with fail
          refine (copy_any _ _ _ (isB_take O3.out.isB cut hcL) (by simp; omega)).mono ?_
          rintro e w4 ⟨pa, pc, rfl, o4, b4⟩
          have hcl : ((rows l).take cut).length = cut := by rw [List.length_take, ← hL.out]; omega
          rw [hcl] at o4 ⊢
          have B4 := hid (low' B3.out b4)
          have O4 := hid (o4.base B3.out.size)
          clear b4 o4 hcl
          have hkc : (k : Int) ≤ (c : Int) := by omega
          by_cases heq : cut = (rows (l.take k)).length
          · have heq' : ((cut : Int) == ((rows (l.take k)).length : Int)) = true := by simp only [beq_iff_eq]; omega
            obtain ⟨pa2, pc2, w5, hrun, o5, g5⟩ := zeros_run O4.out m (by simp; omega) B4.out.size
            have hcl : ((rows l).take cut).length = cut := by rw [List.length_take, ← hL.out]; omega
            rw [hcl] at hrun o5
            have B5 := hid (B4.out.trans (app_low O4.out B4.out.size g5))
            have hrd := cut_reads h65.out (k := k) m
            rw [← heq] at hrd
            have ht := hid (tells_yes _ _ _ _ _ _ o5.isB (isP_take (h0.out.below B5.out) k hk) hrd (by simp; omega))
            clear g5 o5 hcl hrd heq
            generalize (rows (l.take k)).length = s at *
            go_wp2_with (first | (at_builtin; refine Lib.wpList_append_run _ rfl _ _ _ _ rfl _ _ rfl rfl _ _ (hrun _) ?_))
            refine ht.out.mono ?_
            rintro e w6 ⟨rfl, b6⟩
            have B6 := hid (low' B5.out b6)
            clear b6
            go_wp2
            go_ret
            exact ⟨rfl, B6.out⟩
          · have heq' : ((cut : Int) == ((rows (l.take k)).length : Int)) = false := by simp only [beq_eq_false_iff_ne]; omega
            obtain ⟨r, hrd⟩ := torn_reads h65.out hB.out hk hkc0 (by rw [← hL.out]; exact hcL) hfin.out heq
            have ht := hid (tells_yes _ _ _ _ _ _ O4.out.isB (isP_take (h0.out.below B4.out) k hk) hrd (by simp; omega))
            clear hrd
            generalize (rows (l.take k)).length = s at *
            go_wp2_with fail
            refine ht.out.mono ?_
            rintro e w6 ⟨rfl, b6⟩
            have B6 := hid (low' B4.out b6)
            clear b6
            go_wp2
            go_ret
            exact ⟨rfl, B6.out⟩
      · have hlt' : ¬ (k : Int) < (l.length : Int) := by omega
        have hfin : Hid (k = l.length ∨ cut < (rows (l.take (k + 1))).length) := .inl (by omega)
        go_wp2_with fail
        refine (copy_any _ _ _ (isB_take O3.out.isB cut hcL) (by simp; omega)).mono ?_
        rintro e w4 ⟨pa, pc, rfl, o4, b4⟩
        have hcl : ((rows l).take cut).length = cut := by rw [List.length_take, ← hL.out]; omega
        rw [hcl] at o4 ⊢
        have B4 := hid (low' B3.out b4)
        have O4 := hid (o4.base B3.out.size)
        clear b4 o4 hcl
        have hkc : (k : Int) ≤ (c : Int) := by omega
        by_cases heq : cut = (rows (l.take k)).length
        · have heq' : ((cut : Int) == ((rows (l.take k)).length : Int)) = true := by simp only [beq_iff_eq]; omega
          obtain ⟨pa2, pc2, w5, hrun, o5, g5⟩ := zeros_run O4.out m (by simp; omega) B4.out.size
          have hcl : ((rows l).take cut).length = cut := by rw [List.length_take, ← hL.out]; omega
          rw [hcl] at hrun o5
          have B5 := hid (B4.out.trans (app_low O4.out B4.out.size g5))
          have hrd := cut_reads h65.out (k := k) m
          rw [← heq] at hrd
          have ht := hid (tells_yes _ _ _ _ _ _ o5.isB (isP_take (h0.out.below B5.out) k hk) hrd (by simp; omega))
          clear g5 o5 hcl hrd heq
          generalize (rows (l.take k)).length = s at *
          go_wp2_with (first | (at_builtin; refine Lib.wpList_append_run _ rfl _ _ _ _ rfl _ _ rfl rfl _ _ (hrun _) ?_))
          refine ht.out.mono ?_
          rintro e w6 ⟨rfl, b6⟩
          have B6 := hid (low' B5.out b6)
          clear b6
          go_wp2
          go_ret
          exact ⟨rfl, B6.out⟩
        · have heq' : ((cut : Int) == ((rows (l.take k)).length : Int)) = false := by simp only [beq_eq_false_iff_ne]; omega
          obtain ⟨r, hrd⟩ := torn_reads h65.out hB.out hk hkc0 (by rw [← hL.out]; exact hcL) hfin.out heq
          have ht := hid (tells_yes _ _ _ _ _ _ O4.out.isB (isP_take (h0.out.below B4.out) k hk) hrd (by simp; omega))
          clear hrd
          generalize (rows (l.take k)).length = s at *
          go_wp2_with fail
          refine ht.out.mono ?_
          rintro e w6 ⟨rfl, b6⟩
          have B6 := hid (low' B4.out b6)
          clear b6
          go_wp2
          go_ret
          exact ⟨rfl, B6.out⟩
  · rw [hbig] at hgr
    go_enter Try.func5, Try.ntmps5
    go_wp2_with (first | (go_at_call 18; refine (awake_any _).mono ?_; rintro e w1 ⟨rfl, hb⟩) | (go_at_call 19; refine (hgr.out _ hb).mono ?_; rintro e w2 ⟨rfl, rfl⟩))
    go_ret
    exact ⟨rfl, hb⟩

theorem own : ownKnob Try.prog.godebug = none := by kernel_rfl
theorem laidOut : laidOutB Try.prog = true := by kernel_rfl

set_option maxRecDepth 100000 in
theorem lifted (os : Os) (started : os.Started) (H : Type) (enc : TypeId × Value → H) :
    ReturnsInHanded {} Try.checked os 5 .any (Rows.frameTornSpec.pre6 enc Try.prog Try.f5 Rows.frameTornRow.domain false) (Rows.frameTornSpec.post enc Try.prog Try.f5 false true false false) := by
  refine returnsInHanded_of_change (C := Try.checked) own started (by kernel_rfl) Try.func5
    (ChangeSpec.witness6 (enc := enc) (C := Try.checked) false ⟨#[], #[.slice none 0 0, .int .i64 0, .int .i64 0], []⟩ 8 (by kernel_rfl) (by kernel_rfl) (by kernel_rfl) (by kernel_rfl)) ?_
  intro W base args ds gs before hval0 hW hcnd _
  have hval : ∀ (j : Nat) t v, Try.f5.params[j]? = some t → args[j]? = some v → Value.okWide Try.prog W .any base t v := hval0
  have hW' := hW
  obtain ⟨p, q, hA0, hV, rfl, hfz, hnd⟩ := hW
  have hA : DataW.TrodAll enc Try.prog W 0 (fun _ => true) true Try.f5.params.toList args.toList ds p := hA0
  rw [Try.params5] at hA hval
  obtain ⟨v0, vs0, d0, ds0, p0, q0, hargs, rfl, rfl, h0, r0⟩ := trodAll_cons hA
  obtain ⟨v1, vs1, d1, ds1, p1, q1, rfl, rfl, rfl, h1, r1⟩ := trodAll_cons r0
  obtain ⟨v2, vs2, d2, ds2, p2, q2, rfl, rfl, rfl, h2, r2⟩ := trodAll_cons r1
  obtain ⟨rfl, rfl, rfl⟩ := trodAll_nil r2
  obtain rfl : args = #[v0, v1, v2] := by cases args; simp_all
  obtain ⟨rfl, rfl⟩ := trodVars_none hV
  have k0 := h0
  have lt0 : ∀ x ∈ p0, x.block < W.heap.size := by obtain ⟨m, hm⟩ := k0; exact DataW.trod_lt m _ _ _ hm
  obtain ⟨z0, w0, s0⟩ := open_pieces3 Try.underlying33 Try.underlying22 Try.underlying5 (by kernel_rfl) (by kernel_rfl) (hval 0 33 v0 rfl rfl) h0
  obtain ⟨a1, rfl, rfl, rfl, w1⟩ := open_int Try.underlying3 (hval 1 3 v1 rfl rfl) h1
  obtain ⟨a2, rfl, rfl, rfl, w2⟩ := open_int Try.underlying3 (hval 2 3 v2 rfl rfl) h2
  clear hA0 hval0
  refine (walk v0 z0 a1 a2 W w0 s0 w1 w2).mono fun e W' ⟨he, bel⟩ => ?_
  subst he
  exact ⟨_, rfl, _, _, _, [], _, [], hW', trodAll_mk1 (shut_bool Try.underlying4 _), (trodAll_cons_mk (Below.trod laidOut (by kernel_rfl) (of_decide_eq_true (by kernel_rfl)) k0 bel lt0) (trodAll_cons_mk (shut_int Try.underlying3 w1) (trodAll_cons_mk (shut_int Try.underlying3 w2) trodAll_mk0))), rfl, bel.frame _, fun h => by cases h⟩

theorem over : Rows.frameTornRow.holds Try.pinned (OpenSpec.ofChange Rows.frameTornSpec) :=
  OpenClaim.holds_of_wide 5 Try.f5 rfl rfl rfl rfl rfl rfl rfl ⟨rfl, rfl, rfl, rfl, rfl⟩ rfl rfl rfl rfl rfl (by kernel_rfl) Try.func5 (by kernel_rfl)
    (of_decide_eq_true (by kernel_rfl)) (by unfold Func.isWrapper; first | (rw [if_pos (by decide +kernel)]; kernel_rfl) | (rw [if_neg (by decide +kernel)]; exact ⟨rfl, rfl⟩))
    (fun os started H enc _ => lifted os started H enc)

theorem proved : Rows.FrameTornSaid := over
#print axioms proved

end Go.Proofs.Ytffopkpbekjanaa.frameTorn
