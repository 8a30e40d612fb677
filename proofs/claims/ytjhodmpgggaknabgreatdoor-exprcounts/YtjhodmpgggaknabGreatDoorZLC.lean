/- ExprCounts. -/
import Derived.Test.YtjhodmpgggaknabGreatDoorZLB
namespace Go.Proofs.YtjhodmpgggaknabGreatDoor
open Go.ChangeShapes Go.WideShapes Go.ChangeAt Go.RowKit Go.Shelf Go.Maps
namespace Counts

theorem cnt_take (p : Nd → Bool) {ns : List Nd} {k : Nat} {x : Nd} (hx : ns[k]? = some x) : cntK p (ns.take (k + 1)) = cntK p (ns.take k) + (if p x then 1 else 0) := by
  obtain ⟨hk, e⟩ := List.getElem?_eq_some_iff.1 hx
  rw [List.take_succ_eq_append_getElem hk, cntK_app, e]
  unfold cntK
  cases h : p x <;> simp [h]
theorem right_counts {ns : List Nd} (h : rightB ns = true) : cntK isC ns = cntK isB2 ns + 1 ∧ (∀ x ∈ ns, x.kind.toNat ≤ 3) ∧ ns.length ≤ 31 := by
  obtain ⟨h1, t, h2, rfl, h3⟩ := right_inv h
  exact ⟨(counts t 0).1, (counts t 0).2, h1⟩
theorem cnt_le (p : Nd → Bool) (ns : List Nd) (k : Nat) : cntK p (ns.take k) ≤ k := by
  unfold cntK
  exact Nat.le_trans (List.length_filter_le _ _) (by simp; omega)
set_option maxRecDepth 100000 in
set_option maxHeartbeats 4000000 in
theorem walk (v : Value) (ns : List Nd) (w : World) (hE : Env w) (h : IsN w v ns) : Calls Tryz.prog 3 #[v] w fun e w' => e = .returned (.bool true) ∧ Below w.heap.size w w' := by
  have cA := hid (awake_any w hE)
  have hN := hid h
  obtain ⟨a, c, rfl⟩ := h.slice
  obtain ⟨-, hc1, hc2⟩ := h.bound
  clear h hE
  go_enter Tryz.func3, Tryz.ntmps3
  go_wp2_with fail
  refine cA.out.mono ?_
  rintro e w1 ⟨rfl, b1⟩
  have cG := hid (great_any (hN.out.below b1))
  have B1 := hid b1
  clear cA b1
  go_wp2_with fail
  refine cG.out.mono ?_
  rintro e w2 ⟨g, rfl, b2, -⟩
  have B2 := hid (low2 B1.out b2)
  have hN2 := hid (hN.out.below B2.out)
  clear cG b2 B1 hN
  cases g
  · have cR := hid (Right_any hN2.out)
    cases hr : rightB ns
    · rw [hr] at cR
      go_wp2_with fail
      refine cR.out.mono ?_
      rintro e w3 ⟨rfl, b3⟩
      have B3 := hid (low2 B2.out b3)
      clear cR b3
      go_wp2
      go_ret
      exact ⟨rfl, B3.out⟩
    · rw [hr] at cR
      obtain ⟨hcnt, hkind, h31⟩ := right_counts hr
      replace hcnt := hid hcnt
      replace hkind := hid hkind
      go_wp2_with fail
      refine cR.out.mono ?_
      rintro e w3 ⟨rfl, b3⟩
      have B3 := hid b3
      have hN3 := hid (hN2.out.below b3)
      have hlow3 := hid (low2 B2.out b3)
      clear cR b3
      go_wp2_with fail
      have hc := hid (fun (k : Nat) (x : Nd) (hx : ns[k]? = some x) => cnt_take isC hx)
      have hb := hid (fun (k : Nat) (x : Nd) (hx : ns[k]? = some x) => cnt_take isB2 hx)
      have l31 : ns.length ≤ 31 := h31
      go_loopw [3, 4, 5] (fun cv bv iv wr => ∃ j : Nat, iv = .int .i64 (j : Int) ∧ cv = .int .i64 ((cntK isC (ns.take j) : Nat) : Int) ∧ bv = .int .i64 ((cntK isB2 (ns.take j) : Nat) : Int) ∧ j ≤ ns.length ∧ wr = w3) (fun _ _ iv _ => ns.length - (intOf iv).toNat)
      case atStart => exact ⟨0, rfl, rfl, rfl, by omega, rfl⟩
      case round =>
        obtain ⟨j, rfl, rfl, rfl, hj, rfl⟩ := hrel
        have m1 := cnt_le isC ns j
        have m2 := cnt_le isB2 ns j
        by_cases hjn : (j : Int) < (ns.length : Int)
        · have hjn' : j < ns.length := by omega
          obtain ⟨b, off, rfl, hcs⟩ := hN3.out.at hjn'
          obtain ⟨x, hx⟩ : ∃ x, ns[j]? = some x := ⟨_, List.getElem?_eq_getElem hjn'⟩
          obtain ⟨s, ⟨x0, -, -, -, -, -, -, -⟩, -⟩ := hcs j x hx
          have hk := hkind.out x (List.mem_of_getElem? hx)
          have hx := hid hx
          clear hcs
          by_cases hk0 : x.kind = 0
          · have hc' := hid (hc.out _ _ hx.out)
            have hb' := hid (hb.out _ _ hx.out)
            rw [hk0] at x0
            have e1 : Hid (cntK isC (ns.take (j + 1)) = cntK isC (ns.take j) + 1) := by show _ = _; rw [hc'.out]; simp [isC, hk0]
            have e2 : Hid (cntK isB2 (ns.take (j + 1)) = cntK isB2 (ns.take j)) := by show _ = _; rw [hb'.out]; simp [isB2, hk0]
            clear hc' hb' hk0
            go_wp2
            exact ⟨⟨j + 1, by simp, by first | (rw [e1.out]; done) | (rw [e1.out]; simp; done), by first | (rw [e2.out]; done) | (rw [e2.out]; simp; done), by omega, by first | rfl | trivial⟩, by simp [intOf]; omega⟩
          by_cases hk1 : x.kind = 1
          · have hc' := hid (hc.out _ _ hx.out)
            have hb' := hid (hb.out _ _ hx.out)
            rw [hk1] at x0
            have e1 : Hid (cntK isC (ns.take (j + 1)) = cntK isC (ns.take j)) := by show _ = _; rw [hc'.out]; simp [isC, hk1]
            have e2 : Hid (cntK isB2 (ns.take (j + 1)) = cntK isB2 (ns.take j) + 1) := by show _ = _; rw [hb'.out]; simp [isB2, hk1]
            clear hc' hb' hk1
            go_wp2
            exact ⟨⟨j + 1, by simp, by first | (rw [e1.out]; done) | (rw [e1.out]; simp; done), by first | (rw [e2.out]; done) | (rw [e2.out]; simp; done), by omega, by first | rfl | trivial⟩, by simp [intOf]; omega⟩
          by_cases hk2 : x.kind = 2
          · have hc' := hid (hc.out _ _ hx.out)
            have hb' := hid (hb.out _ _ hx.out)
            rw [hk2] at x0
            have e1 : Hid (cntK isC (ns.take (j + 1)) = cntK isC (ns.take j)) := by show _ = _; rw [hc'.out]; simp [isC, hk2]
            have e2 : Hid (cntK isB2 (ns.take (j + 1)) = cntK isB2 (ns.take j) + 1) := by show _ = _; rw [hb'.out]; simp [isB2, hk2]
            clear hc' hb' hk2
            go_wp2
            exact ⟨⟨j + 1, by simp, by first | (rw [e1.out]; done) | (rw [e1.out]; simp; done), by first | (rw [e2.out]; done) | (rw [e2.out]; simp; done), by omega, by first | rfl | trivial⟩, by simp [intOf]; omega⟩
          have hk3 : x.kind = 3 := by
            have : x.kind.toNat = 3 := by
              have a0 : x.kind.toNat ≠ 0 := fun e => hk0 (UInt8.toNat_inj.1 e)
              have a1 : x.kind.toNat ≠ 1 := fun e => hk1 (UInt8.toNat_inj.1 e)
              have a2 : x.kind.toNat ≠ 2 := fun e => hk2 (UInt8.toNat_inj.1 e)
              omega
            exact UInt8.toNat_inj.1 this
          have hc' := hid (hc.out _ _ hx.out)
          have hb' := hid (hb.out _ _ hx.out)
          rw [hk3] at x0
          have e1 : Hid (cntK isC (ns.take (j + 1)) = cntK isC (ns.take j)) := by show _ = _; rw [hc'.out]; simp [isC, hk3]
          have e2 : Hid (cntK isB2 (ns.take (j + 1)) = cntK isB2 (ns.take j)) := by show _ = _; rw [hb'.out]; simp [isB2, hk3]
          clear hc' hb' hk3
          go_wp2
          exact ⟨⟨j + 1, by simp, by first | (rw [e1.out]; done) | (rw [e1.out]; simp; done), by first | (rw [e2.out]; done) | (rw [e2.out]; simp; done), by omega, by first | rfl | trivial⟩, by simp [intOf]; omega⟩
        · obtain rfl : j = ns.length := by omega
          have e1 : Hid (cntK isC (ns.take ns.length) = cntK isB2 (ns.take ns.length) + 1) := by show _ = _; rw [List.take_length]; exact hcnt.out
          rw [e1.out]
          have q1 : decide ((ns.length : Int) ≤ 31) = true := decide_eq_true (by omega)
          generalize cntK isB2 (ns.take ns.length) = nb at *
          have hnb : nb ≤ 31 := by omega
          clear hc hb hcnt hkind
          go_wp2
          go_ret
          exact ⟨rfl, hlow3.out⟩
  · go_wp2
    go_ret
    exact ⟨rfl, B2.out⟩
theorem own : ownKnob Tryz.prog.godebug = none := by kernel_rfl
theorem laidOut : laidOutB Tryz.prog = true := by kernel_rfl

set_option maxRecDepth 100000 in
theorem lifted (os : Os) (started : os.Started) (H : Type) (enc : TypeId × Value → H) :
    ReturnsInHanded {} Tryz.checked os 3 .any (fun w args => (Rows.exprCountsSpec.pre enc Tryz.prog Tryz.f3 [] false w args ∧ laidMetH Tryz.prog Rows.exprCountsRow.laid w) ∧ sizedMet enc Tryz.prog Tryz.f3 (OpenSpec.ofChange Rows.exprCountsSpec) false w args)
      (Rows.exprCountsSpec.post enc Tryz.prog Tryz.f3 false true false false) := by
  refine returnsInHanded_of_change_and (C := Tryz.checked) (X := fun w _ => laidMetH Tryz.prog Rows.exprCountsRow.laid w) (fun _ _ _ hh h => h.of_heap hh) own started (by kernel_rfl) Tryz.func3
    (ChangeSpec.witness_shaped (enc := enc) (C := Tryz.checked) (os := os) (X := fun w _ => laidMetH Tryz.prog Rows.exprCountsRow.laid w) false (World.laidAll Tryz.prog os Rows.exprCountsRow.laid) #[.slice none 0 0] 8 (World.laidAll_os _ _ _)
      (World.shaped_of_ZipB (by kernel_rfl) (by kernel_rfl)) (by kernel_rfl) (by kernel_rfl) (by kernel_rfl)
      (by rw [MakeChecks.laidMetH_plain _ _ _ (by kernel_rfl)]; exact laidMet_laidAll _ (by kernel_rfl) (by kernel_rfl))) ?_
  intro W base args ds gs before hval0 hW _ hsz0 hL _
  have hval : ∀ (j : Nat) t v, Tryz.f3.params[j]? = some t → args[j]? = some v → Value.okWide Tryz.prog W .any base t v := hval0
  have hW' := hW
  obtain ⟨p, q, hA0, hV, rfl, hfz, hnd⟩ := hW
  have hA : DataW.TrodAll enc Tryz.prog W 0 (fun _ => true) true Tryz.f3.params.toList args.toList ds p := hA0
  rw [Tryz.params3] at hA hval
  obtain ⟨v0, vs0, d0, ds0, p0, q0, hargs, rfl, rfl, h0, r0⟩ := trodAll_cons hA
  obtain ⟨rfl, rfl, rfl⟩ := trodAll_nil r0
  obtain rfl : args = #[v0] := by cases args; simp_all
  obtain ⟨rfl, rfl⟩ := trodVars_none hV
  have k0 := h0
  have lt0 : ∀ x ∈ p0, x.block < W.heap.size := by obtain ⟨m, hm⟩ := k0; exact DataW.trod_lt m _ _ _ hm
  obtain ⟨z0, w0⟩ := open_nodes (hval 0 22 v0 rfl rfl) h0
  clear hA0 hval0
  have hEnv : Env W := env_of (by
    have h2 := hL
    rw [MakeChecks.laidMetH_plain _ _ _ (by kernel_rfl)] at h2
    exact h2)
  refine (walk v0 z0 W hEnv w0).mono fun e W' ⟨he, bel⟩ => ?_
  subst he
  exact ⟨_, rfl, _, _, _, [], _, [], hW', trodAll_mk1 (shut_bool Tryz.underlying4 _), (trodAll_cons_mk (Below.trod laidOut (by kernel_rfl) (of_decide_eq_true (by kernel_rfl)) k0 bel lt0) trodAll_mk0), rfl, bel.frame _, fun h => by cases h⟩

theorem over : Rows.ExprCountsSaid :=
  OpenClaim.holds_of_wide 3 Tryz.f3 rfl rfl rfl rfl rfl rfl rfl ⟨rfl, rfl, rfl, rfl, rfl⟩ rfl rfl rfl rfl rfl (by kernel_rfl) Tryz.func3 (by kernel_rfl)
    (of_decide_eq_true (by kernel_rfl)) (by unfold Func.isWrapper; first | (rw [if_pos (by decide +kernel)]; kernel_rfl) | (rw [if_neg (by decide +kernel)]; exact ⟨rfl, rfl⟩))
    (fun os started H enc _ => lifted os started H enc)

theorem proved : Rows.ExprCountsCardSaid :=
  Claim7.holds_tied_plain_at .later [] [.data, .data, .data, .data, .sentinel, .sentinel, .data, .pinned] true (true, "707e8336eb61095b10cbf6105f85c2175716be4bc322fd64d5fd654a9abdafbf") true
    over (fun _ h => by cases h) (by kernel_rfl) (fun _ h => by cases h) exprCounts_row_tie rfl ⟨rfl, rfl⟩ (by kernel_rfl) rfl
    (fun f fn hf hfn => by
      obtain rfl : f = 3 := Option.some.inj ((show Tryz.prog.funcNamed "tocsin/tocsinlaw10.ExprCounts" = some 3 by kernel_rfl).symm.trans hf) |>.symm
      obtain rfl : fn = Tryz.f3 := (Option.some.inj (Tryz.func3.symm.trans hfn)).symm
      exact ⟨by kernel_rfl, fun j t ht => by
        rw [Tryz.params3] at ht
        have hm : t ∈ [22] := by simpa using Array.mem_of_getElem? ht
        have hall : ([22].all fun u => !Tryz.prog.wantsStandIn u) = true := by kernel_rfl
        exact (show Tryz.prog.wantsStandIn t = false by simpa using List.all_eq_true.1 hall t hm)⟩)
    (by kernel_rfl)
#print axioms proved

end Counts
end Go.Proofs.YtjhodmpgggaknabGreatDoor
