import Derived.Test.YtjhodmpgggaknaaGreatDoorZG3
import Derived.Test.YtjhodmpgggaknaaGreatDoorZHL
import Derived.Test.YtjhodmpgggaknaaGreatDoorZGQ
/- For any nodes the law ExprPrints of the program returns true: they are written as the chapter says, if they are right; they stay. The card ties the library's tables and variables that the row lists; no other condition. -/
namespace Go.Proofs.YtjhodmpgggaknaaGreatDoor
open Go.ChangeShapes Go.WideShapes Go.ChangeAt Go.RowKit Go.Shelf Go.Maps
open Go.ChangeMaps (open_string shut_string)
namespace Prints

structure EnvP (w : World) : Prop where
  o : EnvO w
  t : Num.Tab w
theorem EnvP.below {w w' : World} (h : EnvP w) (hb : Below w.heap.size w w') : EnvP w' := ⟨h.o.below hb, h.t.later hb⟩
theorem env_ofP {x0 x1 x3 : String × DataW Unit} {r : List (String × DataW Unit)} {W : World}
    (h : laidMet Tryz.prog (x0 :: x1 :: ("internal/strconv.uint64pow10", Rows.laid_internal_strconv_uint64pow10) :: x3 :: ("tocsin/expr.operators", Rows.laid_tocsin_expr_operators) :: r) W) : EnvP W :=
  ⟨ops_of h.tail.tail.tail.tail, pow_of h.tail.tail⟩
theorem ptx_ne (b : Nat) (t : Tree) : ptx b t ≠ [] := by
  cases t with
  | leaf c => unfold ptx ptxC; simp
  | bin o l r => unfold ptx parens; split <;> simp
  | neg t => unfold ptx; simp
theorem doc_ne {ns : List Nd} (h : rightB ns = true) : docP ns ≠ [] := by
  obtain ⟨t, h1, rfl, h3⟩ := right_get h
  rw [doc_flat h1 h3]
  exact ptx_ne 0 t
theorem right_doc (ns : List Nd) : rightB ns = (docP ns != []) := by
  cases h : rightB ns
  · rw [doc_no h]; rfl
  · have := doc_ne h
    simp [this]
theorem print_any {w : World} {v : Value} {ns : List Nd} (h : IsN w v ns) (hE : EnvP w) : Calls Tryz.prog 14 #[v] w fun e w' => e = .returned (str (docP ns)) ∧ Below w.heap.size w w' := by
  cases hr : rightB ns
  · rw [doc_no hr]
    exact Print_no h hr
  · obtain ⟨t, h1, rfl, h3⟩ := right_get hr
    rw [doc_flat h1 h3]
    exact Print_yes h hE.o hE.t h1 h3
set_option maxHeartbeats 1000000 in
theorem rright_any {w : World} {v : Value} {ns : List Nd} (h : IsN w v ns) (hsm : ∀ x ∈ ns, SmallN x) (hwn : ∀ x ∈ ns, x.win ≤ 9223372036854775807) : Calls Tryz.prog 17 #[v] w fun e w' => e = .returned (.bool (rightB ns)) ∧ Below w.heap.size w w' := by
  have cP := hid (docPrint_any h hsm hwn)
  rw [right_doc]
  obtain ⟨a, c, rfl⟩ := h.slice
  clear h hsm hwn
  unfold str at cP
  generalize docP ns = P at *
  go_enter Tryz.func17, Tryz.ntmps17
  go_wp2_with fail
  refine cP.out.mono ?_
  rintro e w1 ⟨rfl, b1⟩
  have B1 := hid b1
  clear cP b1
  go_wp2
  go_ret
  exact ⟨by cases P <;> rfl, B1.out⟩
set_option maxRecDepth 100000 in
set_option maxHeartbeats 4000000 in
theorem walk (v : Value) (ns : List Nd) (w : World) (hE : EnvP w) (h : IsN w v ns) (hwn : ∀ x ∈ ns, x.win ≤ 9223372036854775807) : Calls Tryz.prog 4 #[v] w fun e w' => e = .returned (.bool true) ∧ Below w.heap.size w w' := by
  have cG := hid (great2_any h)
  have hN := hid h
  have hw := hid hwn
  have hEH := hid hE
  obtain ⟨a, c, rfl⟩ := h.slice
  clear h hE hwn
  go_enter Tryz.func4, Tryz.ntmps4
  go_wp2_with fail
  refine cG.out.mono ?_
  rintro e w1 ⟨g, rfl, b1, hg⟩
  have B1 := hid b1
  have hN1 := hid (hN.out.below b1)
  clear cG b1
  cases g
  · obtain ⟨hn, hsm⟩ := hg rfl
    replace hsm := hid hsm
    have cC := hid (copyN_any hN1.out hn hsm.out)
    clear hg
    go_wp2_with fail
    refine cC.out.mono ?_
    rintro e w2 ⟨a2, c2, rfl, o2, b2⟩
    have B2 := hid (low' B1.out b2)
    have O2 := hid o2.isN
    have N2 := hid (hN1.out.below b2)
    clear cC b2 o2
    have cP := hid (fun W (hb : Below w2.heap.size w2 W) => print_any (O2.out.below hb) (hEH.out.below (low' B2.out hb)))
    have cD := hid (fun W (hb : Below w2.heap.size w2 W) => docPrint_any (N2.out.below hb) hsm.out hw.out)
    have cR := hid (fun W (hb : Below w2.heap.size w2 W) => Right_any (O2.out.below hb))
    have cS := hid (fun W (hb : Below w2.heap.size w2 W) => rright_any (N2.out.below hb) hsm.out hw.out)
    have cM := hid (fun W (hb : Below w2.heap.size w2 W) => rsame_any (O2.out.below hb) (N2.out.below hb))
    rw [sameN_refl] at cM
    unfold str at cP cD
    generalize docP ns = P at *
    generalize rightB ns = r at *
    go_wp2_with fail
    refine (cP.out _ (Below.refl _ _)).mono ?_
    rintro e w3 ⟨rfl, b3⟩
    have D3 := hid b3
    clear cP b3
    go_wp2_with fail
    refine (cD.out _ D3.out).mono ?_
    rintro e w4 ⟨rfl, b4⟩
    have D4 := hid (low' D3.out b4)
    clear cD b4
    go_wp2_with fail
    refine (cR.out _ D4.out).mono ?_
    rintro e w5 ⟨rfl, b5⟩
    have D5 := hid (low' D4.out b5)
    clear cR b5
    go_wp2_with fail
    refine (cS.out _ D5.out).mono ?_
    rintro e w6 ⟨rfl, b6⟩
    have D6 := hid (low' D5.out b6)
    clear cS b6
    go_wp2_with fail
    refine (cM.out _ D6.out).mono ?_
    rintro e w7 ⟨rfl, b7⟩
    have D7 := hid (low' B2.out (low' D6.out b7))
    clear cM b7
    go_wp2
    go_ret
    exact ⟨rfl, D7.out⟩
  · clear hg
    go_wp2
    go_ret
    exact ⟨rfl, B1.out⟩
theorem own : ownKnob Tryz.prog.godebug = none := by kernel_rfl
theorem laidOut : laidOutB Tryz.prog = true := by kernel_rfl

set_option maxRecDepth 100000 in
theorem lifted (os : Os) (started : os.Started) (H : Type) (enc : TypeId × Value → H) :
    ReturnsInHanded {} Tryz.checked os 4 .any (fun w args => (Rows.exprPrintsSpec.pre enc Tryz.prog Tryz.f4 [] false w args ∧ laidMetH Tryz.prog Rows.exprPrintsRow.laid w) ∧ sizedMet enc Tryz.prog Tryz.f4 (OpenSpec.ofChange Rows.exprPrintsSpec) false w args)
      (Rows.exprPrintsSpec.post enc Tryz.prog Tryz.f4 false true false false) := by
  refine returnsInHanded_of_change_and (C := Tryz.checked) (X := fun w _ => laidMetH Tryz.prog Rows.exprPrintsRow.laid w) (fun _ _ _ hh h => h.of_heap hh) own started (by kernel_rfl) Tryz.func4
    (ChangeSpec.witness_shaped (enc := enc) (C := Tryz.checked) (os := os) (X := fun w _ => laidMetH Tryz.prog Rows.exprPrintsRow.laid w) false (World.laidAll Tryz.prog os Rows.exprPrintsRow.laid) #[.slice none 0 0] 8 (World.laidAll_os _ _ _)
      (World.shaped_of_ZipB (by kernel_rfl) (by kernel_rfl)) (by kernel_rfl) (by kernel_rfl) (by kernel_rfl)
      (by rw [MakeChecks.laidMetH_plain _ _ _ (by kernel_rfl)]; exact laidMet_laidAll _ (by kernel_rfl) (by kernel_rfl))) ?_
  intro W base args ds gs before hval0 hW _ hsz0 hL _
  have hval : ∀ (j : Nat) t v, Tryz.f4.params[j]? = some t → args[j]? = some v → Value.okWide Tryz.prog W .any base t v := hval0
  have hW' := hW
  obtain ⟨p, q, hA0, hV, rfl, hfz, hnd⟩ := hW
  have hA : DataW.TrodAll enc Tryz.prog W 0 (fun _ => true) true Tryz.f4.params.toList args.toList ds p := hA0
  rw [Tryz.params4] at hA hval
  obtain ⟨v0, vs0, d0, ds0, p0, q0, hargs, rfl, rfl, h0, r0⟩ := trodAll_cons hA
  obtain ⟨rfl, rfl, rfl⟩ := trodAll_nil r0
  obtain rfl : args = #[v0] := by cases args; simp_all
  obtain ⟨rfl, rfl⟩ := trodVars_none hV
  have k0 := h0
  have lt0 : ∀ x ∈ p0, x.block < W.heap.size := by obtain ⟨m, hm⟩ := k0; exact DataW.trod_lt m _ _ _ hm
  obtain ⟨z0, w0, u0⟩ := open_nodes2 (hval 0 22 v0 rfl rfl) h0
  clear hA0 hval0
  have hEnv : EnvP W := env_ofP (by
    have h2 := hL
    rw [MakeChecks.laidMetH_plain _ _ _ (by kernel_rfl)] at h2
    exact h2)
  refine (walk v0 z0 W hEnv w0 u0).mono fun e W' ⟨he, bel⟩ => ?_
  subst he
  exact ⟨_, rfl, _, _, _, [], _, [], hW', trodAll_mk1 (shut_bool Tryz.underlying4 _), (trodAll_cons_mk (Below.trod laidOut (by kernel_rfl) (of_decide_eq_true (by kernel_rfl)) k0 bel lt0) trodAll_mk0), rfl, bel.frame _, fun h => by cases h⟩

theorem over : Rows.ExprPrintsSaid :=
  OpenClaim.holds_of_wide 4 Tryz.f4 rfl rfl rfl rfl rfl rfl rfl ⟨rfl, rfl, rfl, rfl, rfl⟩ rfl rfl rfl rfl rfl (by kernel_rfl) Tryz.func4 (by kernel_rfl)
    (of_decide_eq_true (by kernel_rfl)) (by unfold Func.isWrapper; first | (rw [if_pos (by decide +kernel)]; kernel_rfl) | (rw [if_neg (by decide +kernel)]; exact ⟨rfl, rfl⟩))
    (fun os started H enc _ => lifted os started H enc)

theorem proved : Rows.ExprPrintsCardSaid :=
  Claim7.holds_tied_plain_at .later [] [.data, .data, .data, .data, .data, .pinned] true (true, "0de5c6bda23e0a8c6fc41c4f9c256532d3b8c8c7ac968135fcbd1891ac288ff9") true
    over (fun _ h => by cases h) (by kernel_rfl) (fun _ h => by cases h) exprPrints_row_tie rfl ⟨rfl, rfl⟩ (by kernel_rfl) rfl
    (fun f fn hf hfn => by
      obtain rfl : f = 4 := Option.some.inj ((show Tryz.prog.funcNamed "tocsin/tocsinlaw10.ExprPrints" = some 4 by kernel_rfl).symm.trans hf) |>.symm
      obtain rfl : fn = Tryz.f4 := (Option.some.inj (Tryz.func4.symm.trans hfn)).symm
      exact ⟨by kernel_rfl, fun j t ht => by
        rw [Tryz.params4] at ht
        have hm : t ∈ [22] := by simpa using Array.mem_of_getElem? ht
        have hall : ([22].all fun u => !Tryz.prog.wantsStandIn u) = true := by kernel_rfl
        exact (show Tryz.prog.wantsStandIn t = false by simpa using List.all_eq_true.1 hall t hm)⟩)
    (by kernel_rfl)
#print axioms proved

end Prints
end Go.Proofs.YtjhodmpgggaknaaGreatDoor
