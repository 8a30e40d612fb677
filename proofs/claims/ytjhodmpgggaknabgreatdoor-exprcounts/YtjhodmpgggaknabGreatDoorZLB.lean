/- ExprBegins. -/
import Derived.Test.YtjhodmpgggaknabGreatDoorZGQ
namespace Go.Proofs.YtjhodmpgggaknabGreatDoor
open Go.ChangeShapes Go.WideShapes Go.ChangeAt Go.RowKit Go.Shelf Go.Maps
namespace Begins

theorem last_of {ns : List Nd} (h : rightB ns = true) : 0 < ns.length ∧ ∃ x, ns[ns.length - 1]? = some x ∧ rightB (ns.take (ns.length - 1)) = (x.kind == 3) := by
  obtain ⟨t, h1, rfl, h2⟩ := right_iff.1 h
  obtain ⟨l, x, e, hr⟩ := right_begins h1 h2
  rw [e]
  refine ⟨by simp, x, by simp, ?_⟩
  rw [← hr]
  simp
theorem kind_eq (x : Nd) : ((x.kind.toNat : Int) == 3) = (x.kind == 3) := by
  by_cases h : x.kind = 3
  · simp [h]
  · have h2 : x.kind.toNat ≠ 3 := fun e => h (UInt8.toNat_inj.1 e)
    rw [beq_eq_false_iff_ne.2 h, beq_eq_false_iff_ne.2 (by omega)]
set_option maxRecDepth 100000 in
set_option maxHeartbeats 4000000 in
theorem walk (v : Value) (ns : List Nd) (w : World) (hE : Env w) (h : IsN w v ns) : Calls Tryz.prog 5 #[v] w fun e w' => e = .returned (.bool true) ∧ Below w.heap.size w w' := by
  have cA := hid (awake_any w hE)
  have hN := hid h
  obtain ⟨a, c, rfl⟩ := h.slice
  obtain ⟨-, hc1, hc2⟩ := h.bound
  clear h hE
  go_enter Tryz.func5, Tryz.ntmps5
  go_wp2_with fail
  refine cA.out.mono ?_
  rintro e w1 ⟨rfl, b1⟩
  have cG := hid (great_any (hN.out.below b1))
  have B1 := hid b1
  clear cA b1
  go_wp2_with fail
  refine cG.out.mono ?_
  rintro e w2 ⟨g, rfl, b2, -⟩
  have B2 := hid (low2 B1.out b2)
  have hN2 := hid (hN.out.below B2.out)
  clear cG b2 B1 hN
  cases g
  · have cR := hid (Right_any hN2.out)
    cases hr : rightB ns
    · rw [hr] at cR
      go_wp2_with fail
      refine cR.out.mono ?_
      rintro e w3 ⟨rfl, b3⟩
      have B3 := hid (low2 B2.out b3)
      clear cR b3
      go_wp2
      go_ret
      exact ⟨rfl, B3.out⟩
    · rw [hr] at cR
      obtain ⟨hp, x, hx, hl⟩ := last_of hr
      obtain ⟨m, hm⟩ : ∃ m, ns.length = m + 1 := ⟨ns.length - 1, by omega⟩
      rw [hm] at hx hl hc1
      simp only [Nat.add_sub_cancel] at hx hl
      obtain ⟨b, off, rfl, hcs⟩ := hN2.out.at (k := m) (by omega)
      obtain ⟨s, ⟨x0, -, -, -, -, -, -, -⟩, -⟩ := hcs m x hx
      have cQ : Hid (∀ W, Below w2.heap.size w2 W → Calls Tryz.prog 8 #[.slice (some ⟨b, off, none⟩) m c] W fun e w' => e = .returned (.bool (x.kind == 3)) ∧ Below W.heap.size W w') := fun W hb => by
        have h1 := hN2.out.below hb
        have h2 := h1.part 0 m (by omega) (by omega) m c rfl (by omega) (by unfold maxLen; omega)
        have h3 := Right_any h2
        rw [Nat.zero_mul, Nat.add_zero, List.drop_zero, hl] at h3
        exact h3
      have hcell := hid (fun W (hb : Below w2.heap.size w2 W) => (hb.cell (p := ⟨b, off + m * 8, none⟩) (World.block_lt_of_cell? w2 _ x0)).trans x0)
      have hke := kind_eq x
      have hmc : m ≤ c := by omega
      have hwr : IntKind.i64.wrap ((m : Int) + 1 - 1) = (m : Int) := by rw [IntKind.wrap_i64]; omega
      rw [hm] at cR ⊢
      clear hcs x0 hN2 hx hl
      go_wp2_with fail
      refine cR.out.mono ?_
      rintro e w3 ⟨rfl, b3⟩
      have B3 := hid b3
      clear cR b3
      have z0 := hcell.out w3 B3.out
      have hix0 : (0 : Int) ≤ (m : Int) := by omega
      have hix1 : (m : Int) < ((m + 1 : Nat) : Int) := by omega
      have hix2 : (m : Int) < (m : Int) + 1 := by omega
      have hlow3 := hid (fun W (hb : Below w2.heap.size w2 W) => low2 B2.out hb)
      generalize (x.kind == 3) = kb at *
      go_wp2_with fail
      go_region_held3 (fun w' => w'.cell? ⟨b, off + m * 8, none⟩ = some (.int .u8 (x.kind.toNat : Int))) (go_keep) (first | (go_at_call 8; refine (cQ.out _ (low2 B3.out (below_drew (Below.refl _ _)))).mono ?_; rintro e w4 ⟨rfl, b4⟩; have B4 := hid (low2 (low2 B3.out (below_drew (Below.refl w3.heap.size w3))) b4); have j0 := hcell.out _ B4.out; clear b4))
      all_goals
        clear cQ hcell
        cases kb
        all_goals
          go_wp2
          go_ret
          exact ⟨rfl, hlow3.out _ B4.out⟩
  · go_wp2
    go_ret
    exact ⟨rfl, B2.out⟩
theorem own : ownKnob Tryz.prog.godebug = none := by kernel_rfl
theorem laidOut : laidOutB Tryz.prog = true := by kernel_rfl

set_option maxRecDepth 100000 in
theorem lifted (os : Os) (started : os.Started) (H : Type) (enc : TypeId × Value → H) :
    ReturnsInHanded {} Tryz.checked os 5 .any (fun w args => (Rows.exprBeginsSpec.pre enc Tryz.prog Tryz.f5 [] false w args ∧ laidMetH Tryz.prog Rows.exprBeginsRow.laid w) ∧ sizedMet enc Tryz.prog Tryz.f5 (OpenSpec.ofChange Rows.exprBeginsSpec) false w args)
      (Rows.exprBeginsSpec.post enc Tryz.prog Tryz.f5 false true false false) := by
  refine returnsInHanded_of_change_and (C := Tryz.checked) (X := fun w _ => laidMetH Tryz.prog Rows.exprBeginsRow.laid w) (fun _ _ _ hh h => h.of_heap hh) own started (by kernel_rfl) Tryz.func5
    (ChangeSpec.witness_shaped (enc := enc) (C := Tryz.checked) (os := os) (X := fun w _ => laidMetH Tryz.prog Rows.exprBeginsRow.laid w) false (World.laidAll Tryz.prog os Rows.exprBeginsRow.laid) #[.slice none 0 0] 8 (World.laidAll_os _ _ _)
      (World.shaped_of_ZipB (by kernel_rfl) (by kernel_rfl)) (by kernel_rfl) (by kernel_rfl) (by kernel_rfl)
      (by rw [MakeChecks.laidMetH_plain _ _ _ (by kernel_rfl)]; exact laidMet_laidAll _ (by kernel_rfl) (by kernel_rfl))) ?_
  intro W base args ds gs before hval0 hW _ hsz0 hL _
  have hval : ∀ (j : Nat) t v, Tryz.f5.params[j]? = some t → args[j]? = some v → Value.okWide Tryz.prog W .any base t v := hval0
  have hW' := hW
  obtain ⟨p, q, hA0, hV, rfl, hfz, hnd⟩ := hW
  have hA : DataW.TrodAll enc Tryz.prog W 0 (fun _ => true) true Tryz.f5.params.toList args.toList ds p := hA0
  rw [Tryz.params5] at hA hval
  obtain ⟨v0, vs0, d0, ds0, p0, q0, hargs, rfl, rfl, h0, r0⟩ := trodAll_cons hA
  obtain ⟨rfl, rfl, rfl⟩ := trodAll_nil r0
  obtain rfl : args = #[v0] := by cases args; simp_all
  obtain ⟨rfl, rfl⟩ := trodVars_none hV
  have k0 := h0
  have lt0 : ∀ x ∈ p0, x.block < W.heap.size := by obtain ⟨m, hm⟩ := k0; exact DataW.trod_lt m _ _ _ hm
  obtain ⟨z0, w0⟩ := open_nodes (hval 0 22 v0 rfl rfl) h0
  clear hA0 hval0
  have hEnv : Env W := env_of (by
    have h2 := hL
    rw [MakeChecks.laidMetH_plain _ _ _ (by kernel_rfl)] at h2
    exact h2)
  refine (walk v0 z0 W hEnv w0).mono fun e W' ⟨he, bel⟩ => ?_
  subst he
  exact ⟨_, rfl, _, _, _, [], _, [], hW', trodAll_mk1 (shut_bool Tryz.underlying4 _), (trodAll_cons_mk (Below.trod laidOut (by kernel_rfl) (of_decide_eq_true (by kernel_rfl)) k0 bel lt0) trodAll_mk0), rfl, bel.frame _, fun h => by cases h⟩

theorem over : Rows.ExprBeginsSaid :=
  OpenClaim.holds_of_wide 5 Tryz.f5 rfl rfl rfl rfl rfl rfl rfl ⟨rfl, rfl, rfl, rfl, rfl⟩ rfl rfl rfl rfl rfl (by kernel_rfl) Tryz.func5 (by kernel_rfl)
    (of_decide_eq_true (by kernel_rfl)) (by unfold Func.isWrapper; first | (rw [if_pos (by decide +kernel)]; kernel_rfl) | (rw [if_neg (by decide +kernel)]; exact ⟨rfl, rfl⟩))
    (fun os started H enc _ => lifted os started H enc)

theorem proved : Rows.ExprBeginsCardSaid :=
  Claim7.holds_tied_plain_at .later [] [.data, .data, .data, .data, .sentinel, .sentinel, .data, .pinned] true (true, "707e8336eb61095b10cbf6105f85c2175716be4bc322fd64d5fd654a9abdafbf") true
    over (fun _ h => by cases h) (by kernel_rfl) (fun _ h => by cases h) exprBegins_row_tie rfl ⟨rfl, rfl⟩ (by kernel_rfl) rfl
    (fun f fn hf hfn => by
      obtain rfl : f = 5 := Option.some.inj ((show Tryz.prog.funcNamed "tocsin/tocsinlaw10.ExprBegins" = some 5 by kernel_rfl).symm.trans hf) |>.symm
      obtain rfl : fn = Tryz.f5 := (Option.some.inj (Tryz.func5.symm.trans hfn)).symm
      exact ⟨by kernel_rfl, fun j t ht => by
        rw [Tryz.params5] at ht
        have hm : t ∈ [22] := by simpa using Array.mem_of_getElem? ht
        have hall : ([22].all fun u => !Tryz.prog.wantsStandIn u) = true := by kernel_rfl
        exact (show Tryz.prog.wantsStandIn t = false by simpa using List.all_eq_true.1 hall t hm)⟩)
    (by kernel_rfl)
#print axioms proved

end Begins
end Go.Proofs.YtjhodmpgggaknabGreatDoor
