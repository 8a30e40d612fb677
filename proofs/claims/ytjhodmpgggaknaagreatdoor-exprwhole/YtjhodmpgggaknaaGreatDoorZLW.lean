/- For any text the law ExprWhole of the program returns true: Parse tells a condition just if Read, from the first token on, tells one that ends with the last one. The card ties the library's tables and variables that the row lists; no other condition. -/
import Derived.Test.YtjhodmpgggaknaaGreatDoorZHK
import Derived.Test.YtjhodmpgggaknaaGreatDoorZGQ
import Derived.Test.YtjhodmpgggaknaaGreatDoorZSM
namespace Go.Proofs.YtjhodmpgggaknaaGreatDoor
open Go.ChangeShapes Go.WideShapes Go.ChangeAt Go.RowKit Go.Shelf Go.Maps
open Go.ChangeMaps (open_string shut_string)
namespace Whole

theorem read_parse {s : Tx} (hs : s.length ≤ 4096) (hb : badOf s = none) : ((parseR s).2 = 0 ∧ readR (tksOf s) 0 = ((parseR s).1, ((tksOf s).length : Int), 0)) ∨ ((parseR s).2 ≠ 0 ∧ ((readR (tksOf s) 0).2.2 ≠ 0 ∨ (readR (tksOf s) 0).2.1 < ((tksOf s).length : Int))) := by
  have e1 : parseR s = if (outP (keysT (tksOf s))).2.1 ≠ [] then ([], 100) else if (outP (keysT (tksOf s))).2.2 = 0 then ((outP (keysT (tksOf s))).1, 0) else ([], (outP (keysT (tksOf s))).2.2) := by
    unfold parseR
    rw [if_neg (by omega), if_neg (by rw [hb]; simp)]
  have e2 : readR (tksOf s) 0 = if (outP (keysT (tksOf s))).2.2 = 0 then ((outP (keysT (tksOf s))).1, ((tksOf s).length : Int) - ((outP (keysT (tksOf s))).2.1.length : Int), 0) else ([], 0, (outP (keysT (tksOf s))).2.2) := by
    unfold readR
    rw [if_neg (by omega)]
    rfl
  rw [e1, e2]
  generalize outP (keysT (tksOf s)) = o
  obtain ⟨ns, r, c⟩ := o
  simp only
  by_cases hr : r = []
  · subst hr
    by_cases hc : c = 0
    · subst hc
      left
      simp
    · right
      simp [hc]
  · right
    have hp : 0 < r.length := List.length_pos_iff.2 hr
    by_cases hc : c = 0
    · subst hc
      simp [hr]
      omega
    · simp [hc, hr]
theorem parse_bad {s : Tx} {p : Nat} (hs : s.length ≤ 4096) (hb : badOf s = some p) : parseR s = ([], 90) := by
  unfold parseR
  rw [if_neg (by omega), hb, if_pos (by simp)]
set_option maxRecDepth 100000 in
set_option maxHeartbeats 4000000 in
theorem walk1 (s : Tx) (w : World) (hE : Env w) (hs : s.length ≤ maxLen) : Calls Tryz.prog 8 #[str s] w fun e w' => e = .returned (.bool true) ∧ Below w.heap.size w w' := by
  unfold maxLen at hs
  have cA := hid (awake_any w hE)
  by_cases h1 : 4000 < s.length
  · have h1' : decide ((4000 : Int) < (s.length : Int)) = true := decide_eq_true (by omega)
    clear hE
    unfold str
    go_enter Tryz.func8, Tryz.ntmps8
    go_wp2_with fail
    refine cA.out.mono ?_
    rintro e w1 ⟨rfl, b1⟩
    have B1 := hid b1
    clear cA b1
    go_wp2
    go_ret
    exact ⟨rfl, B1.out⟩
  have h1' : decide ((4000 : Int) < (s.length : Int)) = false := decide_eq_false (by omega)
  have hP := hid (fun W (hb : Below w.heap.size w W) => Parse_any s (hE.below hb).e (hE.below hb).o (by omega))
  cases hbad : badOf s with
  | some p =>
    have hal := hid (fun W => all_bad s W (hbad ▸ tks_scan s) (by omega))
    rw [parse_bad (by omega) hbad] at hP
    clear hE hbad
    unfold str at *
    go_enter Tryz.func8, Tryz.ntmps8
    go_wp2_with fail
    refine cA.out.mono ?_
    rintro e w1 ⟨rfl, b1⟩
    have B1 := hid b1
    clear cA b1
    go_wp2_with fail
    refine (hal.out _).mono ?_
    rintro e w2 ⟨rfl, b2⟩
    have B2 := hid (low2 B1.out b2)
    clear hal b2 B1
    go_wp2_with fail
    refine (hP.out _ B2.out).mono ?_
    rintro e w3 ⟨vn, rfl, o3, b3⟩
    obtain ⟨a3, c3, rfl⟩ := o3.slice
    have B3 := hid (low2 B2.out b3)
    clear hP b3 B2 o3
    go_wp2
    go_ret
    exact ⟨rfl, B3.out⟩
  | none =>
    have hsc : Scan 0 s (tksOf s) none := hbad ▸ tks_scan s
    have hal := hid (fun W => all_ok s W hsc (by omega))
    have hmem := hid (fun (t : Tk) (ht : t ∈ tksOf s) => show t.text.length ≤ 4096 from by have := ((scan_mem hsc).2.1 t ht).1; omega)
    have hR := hid (fun W (hb : Below w.heap.size w W) v (hv : IsTs W v (tksOf s)) => Read_any hv (hE.below hb).e (hE.below hb).o hmem.out 0)
    have hcase := read_parse (by omega) hbad
    clear hE hbad hsc hmem
    generalize tksOf s = l at *
    generalize parseR s = p at *
    obtain ⟨pn, pc⟩ := p
    generalize readR l 0 = r at *
    obtain ⟨rn, rx, rc⟩ := r
    simp only at hcase hP hR
    unfold str at *
    go_enter Tryz.func8, Tryz.ntmps8
    go_wp2_with fail
    refine cA.out.mono ?_
    rintro e w1 ⟨rfl, b1⟩
    have B1 := hid b1
    clear cA b1
    go_wp2_with fail
    refine (hal.out _).mono ?_
    rintro e w2 ⟨a2, c2, rfl, o2, b2⟩
    have B2 := hid (low2 B1.out b2)
    replace o2 := hid o2.isT
    clear hal b2 B1
    go_wp2_with fail
    refine (hP.out _ B2.out).mono ?_
    rintro e w3 ⟨vn, rfl, o3, b3⟩
    obtain ⟨a3, c3, rfl⟩ := o3.slice
    have B3 := hid (low2 B2.out b3)
    have O3 := hid o3.isN
    replace o2 := hid (o2.out.below b3)
    clear hP b3 B2 o3
    go_wp2_with fail
    refine (hR.out _ B3.out _ o2.out).mono ?_
    rintro e w4 ⟨vm, rfl, o4, b4⟩
    obtain ⟨a4, c4, rfl⟩ := o4.slice
    have B4 := hid (low2 B3.out b4)
    have cS := hid (rsame_any (O3.out.below b4) o4.isN)
    clear hR b4 B3 o4 O3 o2
    rcases hcase with ⟨hz, hr⟩ | ⟨hz, hr⟩
    · subst hz
      simp only [Prod.mk.injEq] at hr
      obtain ⟨rfl, rfl, rfl⟩ := hr
      rw [sameN_refl] at cS
      go_wp2_with fail
      refine cS.out.mono ?_
      rintro e w5 ⟨rfl, b5⟩
      have B5 := hid (low2 B4.out b5)
      clear cS b5
      go_wp2
      go_ret
      exact ⟨rfl, B5.out⟩
    · have q1 : (pc == 0) = false := by simp [hz]
      clear cS
      rcases hr with hr | hr
      · have q2 : (rc != 0) = true := by simp [hr]
        go_wp2
        go_ret
        exact ⟨rfl, B4.out⟩
      · have q2 : decide (rx < (l.length : Int)) = true := decide_eq_true hr
        by_cases h0 : rc = 0
        · subst h0
          go_wp2
          go_ret
          exact ⟨rfl, B4.out⟩
        · have q3 : (rc != 0) = true := by simp [h0]
          go_wp2
          go_ret
          exact ⟨rfl, B4.out⟩
theorem walk (s : ByteArray) (w : World) (hE : Env w) (hs : s.size ≤ maxLen) :
    Calls Tryz.prog 8 #[.string s] w fun e w' => e = .returned (.bool true) ∧ Below w.heap.size w w' := by
  rw [str_of s]
  exact walk1 _ w hE hs
theorem own : ownKnob Tryz.prog.godebug = none := by kernel_rfl
theorem laidOut : laidOutB Tryz.prog = true := by kernel_rfl

set_option maxRecDepth 100000 in
theorem lifted (os : Os) (started : os.Started) (H : Type) (enc : TypeId × Value → H) :
    ReturnsInHanded {} Tryz.checked os 8 .any (fun w args => (Rows.exprWholeSpec.pre enc Tryz.prog Tryz.f8 [] false w args ∧ laidMetH Tryz.prog Rows.exprWholeRow.laid w) ∧ sizedMet enc Tryz.prog Tryz.f8 (OpenSpec.ofChange Rows.exprWholeSpec) false w args)
      (Rows.exprWholeSpec.post enc Tryz.prog Tryz.f8 false true false false) := by
  refine returnsInHanded_of_change_and (C := Tryz.checked) (X := fun w _ => laidMetH Tryz.prog Rows.exprWholeRow.laid w) (fun _ _ _ hh h => h.of_heap hh) own started (by kernel_rfl) Tryz.func8
    (ChangeSpec.witness_shaped (enc := enc) (C := Tryz.checked) (os := os) (X := fun w _ => laidMetH Tryz.prog Rows.exprWholeRow.laid w) false (World.laidAll Tryz.prog os Rows.exprWholeRow.laid) #[.string ⟨#[]⟩] 8 (World.laidAll_os _ _ _)
      (World.shaped_of_ZipB (by kernel_rfl) (by kernel_rfl)) (by kernel_rfl) (by kernel_rfl) (by kernel_rfl)
      (by rw [MakeChecks.laidMetH_plain _ _ _ (by kernel_rfl)]; exact laidMet_laidAll _ (by kernel_rfl) (by kernel_rfl))) ?_
  intro W base args ds gs before hval0 hW _ hsz0 hL _
  have hval : ∀ (j : Nat) t v, Tryz.f8.params[j]? = some t → args[j]? = some v → Value.okWide Tryz.prog W .any base t v := hval0
  have hW' := hW
  obtain ⟨p, q, hA0, hV, rfl, hfz, hnd⟩ := hW
  have hA : DataW.TrodAll enc Tryz.prog W 0 (fun _ => true) true Tryz.f8.params.toList args.toList ds p := hA0
  rw [Tryz.params8] at hA hval
  obtain ⟨v0, vs0, d0, ds0, p0, q0, hargs, rfl, rfl, h0, r0⟩ := trodAll_cons hA
  obtain ⟨rfl, rfl, rfl⟩ := trodAll_nil r0
  obtain rfl : args = #[v0] := by cases args; simp_all
  obtain ⟨rfl, rfl⟩ := trodVars_none hV
  obtain ⟨a0, rfl, rfl, rfl, w0⟩ := open_string Tryz.underlying9 (hval 0 9 v0 rfl rfl) h0
  clear hA0 hval0
  have hEnv : Env W := env_of (by
    have h2 := hL
    rw [MakeChecks.laidMetH_plain _ _ _ (by kernel_rfl)] at h2
    exact h2)
  refine (walk a0 W hEnv w0).mono fun e W' ⟨he, bel⟩ => ?_
  subst he
  exact ⟨_, rfl, _, _, _, [], _, [], hW', trodAll_mk1 (shut_bool Tryz.underlying4 _), (trodAll_cons_mk (shut_string Tryz.underlying9 w0) trodAll_mk0), rfl, bel.frame _, fun h => by cases h⟩

theorem over : Rows.ExprWholeSaid :=
  OpenClaim.holds_of_wide 8 Tryz.f8 rfl rfl rfl rfl rfl rfl rfl ⟨rfl, rfl, rfl, rfl, rfl⟩ rfl rfl rfl rfl rfl (by kernel_rfl) Tryz.func8 (by kernel_rfl)
    (of_decide_eq_true (by kernel_rfl)) (by unfold Func.isWrapper; first | (rw [if_pos (by decide +kernel)]; kernel_rfl) | (rw [if_neg (by decide +kernel)]; exact ⟨rfl, rfl⟩))
    (fun os started H enc _ => lifted os started H enc)

theorem proved : Rows.ExprWholeCardSaid :=
  Claim7.holds_tied_plain_at .later [] [.data, .data, .data, .data, .sentinel, .sentinel, .data, .pinned] true (true, "0de5c6bda23e0a8c6fc41c4f9c256532d3b8c8c7ac968135fcbd1891ac288ff9") true
    over (fun _ h => by cases h) (by kernel_rfl) (fun _ h => by cases h) exprWhole_row_tie rfl ⟨rfl, rfl⟩ (by kernel_rfl) rfl
    (fun f fn hf hfn => by
      obtain rfl : f = 8 := Option.some.inj ((show Tryz.prog.funcNamed "tocsin/tocsinlaw10.ExprWhole" = some 8 by kernel_rfl).symm.trans hf) |>.symm
      obtain rfl : fn = Tryz.f8 := (Option.some.inj (Tryz.func8.symm.trans hfn)).symm
      exact ⟨by kernel_rfl, fun j t ht => by
        rw [Tryz.params8] at ht
        have hm : t ∈ [9] := by simpa using Array.mem_of_getElem? ht
        have hall : ([9].all fun u => !Tryz.prog.wantsStandIn u) = true := by kernel_rfl
        exact (show Tryz.prog.wantsStandIn t = false by simpa using List.all_eq_true.1 hall t hm)⟩)
    (by kernel_rfl)
#print axioms proved

end Whole
end Go.Proofs.YtjhodmpgggaknaaGreatDoor
