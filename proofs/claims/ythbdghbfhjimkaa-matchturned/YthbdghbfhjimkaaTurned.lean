/- For any matchers and any labels the law MatchTurned of the program returns true and leaves them as they were: the order of matchers changes nothing of whether they hold, nor does a matcher that stands twice. No condition. -/
import Derived.Test.YthbdghbfhjimkaaG8
import Derived.Test.YthbdghbfhjimkaaA8
import Derived.Test.YthbdghbfhjimkaaX1
namespace Go.Proofs.Ythbdghbfhjimkaa.matchTurned
open Go.ChangeShapes Go.WideShapes Go.ChangeAt Go.RowKit
open Go.ChangeMaps (open_string shut_string)
set_option linter.unusedVariables false

set_option maxRecDepth 100000 in
set_option maxHeartbeats 4000000 in
theorem walk (v0 : Value) (m : List Mt) (v1 : Value) (l : List Lb) (w : World) (h0 : IsMs w v0 m) (h1 : IsLs w v1 l) :
    Calls Try.prog 8 #[v0, v1] w fun e w' => e = .returned (.bool true) ∧ Below w.heap.size w w' := by
  obtain ⟨a0, c0, rfl⟩ := h0.slice
  obtain ⟨a1, c1, rfl⟩ := h1.slice
  obtain ⟨-, hb0⟩ := h0.bound
  obtain ⟨-, hb1⟩ := h1.bound
  replace h0 := hid h0
  replace h1 := hid h1
  go_enter Try.func8, Try.ntmps8
  go_wp2_with fail
  refine (awake_any w).mono ?_
  rintro e w3 ⟨rfl, b3⟩
  have B3 := hid b3
  clear b3
  go_wp2_with fail
  refine (great_any _ _ m l w3 (h0.out.below B3.out) (h1.out.below B3.out)).mono ?_
  rintro e w4 ⟨r4, rfl, hf4, q4, rfl⟩
  have B4 := hid (below_drewN (n := q4) B3.out)
  generalize w3.drewN q4 = w4 at *
  clear B3
  cases r4 with
  | true =>
    clear hf4
    go_wp2
    go_ret
    exact ⟨rfl, B4.out⟩
  | false =>
    have hla := (hf4 rfl).1
    clear hf4
    have hwr : IntKind.i64.wrap ((m.length : Int) - 1) = (m.length : Int) - 1 := by rw [IntKind.wrap_i64]; omega
    go_wp2
    go_loopw [5, 6] (fun tv iv wr => ∃ (j : Nat) (z : Int), j ≤ m.length ∧ iv = .int .i64 z ∧ z = (j : Int) - 1 ∧ Hid (OwnM w.heap.size wr tv ((m.drop j).reverse)) ∧ Hid (Below w.heap.size w wr)) (fun _ iv _ => (intOf iv + 1).toNat)
    case atStart => exact ⟨m.length, _, by omega, rfl, rfl, by rw [List.drop_length]; exact ownM_nil _ _, B4.out⟩
    case round =>
      obtain ⟨j, z, hj, rfl, hz, ho, hB⟩ := hrel
      clear B4 hwr
      obtain ⟨V, rfl⟩ : ∃ V : World, V = wr := ⟨_, rfl⟩
      obtain ⟨ta, tc, rfl⟩ := ho.out.slice
      cases j with
      | zero =>
        obtain rfl : z = -1 := by omega
        clear hz
        have hr : (m.drop 0).reverse = m.reverse := by simp
        rw [hr] at ho
        have hlen : m.reverse.length = m.length := List.length_reverse
        have hn := hid hlen
        rw [hlen] at ho
        clear hlen hr
        go_wp2_with fail
        refine (does_any _ _ m l V (h0.out.below hB.out) (h1.out.below hB.out)).mono ?_
        rintro e w5 ⟨rfl, b5⟩
        have B5 := hid (low' hB.out b5)
        have o5 := hid (ho.out.below b5)
        clear b5 hB ho
        go_wp2_with fail
        refine (does_any _ _ m.reverse l w5 o5.out.isM (h1.out.below B5.out)).mono ?_
        rintro e w6 ⟨rfl, b6⟩
        rw [does_rev]
        have B6 := hid (low' B5.out b6)
        have o6 := o5.out.below b6
        obtain ⟨a7, c7, w7, hrun, o7, hg, -⟩ := appM_run o6 (h0.out.below B6.out) (by rw [hn.out]; omega) B6.out.size
        have B7 := hid (B6.out.trans (appM_low o6 B6.out.size hg))
        rw [hn.out] at hrun o7
        replace o7 := hid o7.isM
        have hdd := does_app m.reverse m l
        rw [does_rev, Bool.and_self] at hdd
        replace hdd := hid hdd
        clear b6 o6 o5 hg B5 B6
        cases hd : doesM m l with
        | true =>
          rw [hd] at hdd
          go_wp2_with (at_builtin; refine wpList_append_run _ rfl _ _ 22 rfl _ _ _ _ rfl rfl hrun ?_)
          refine (does_any _ _ (m.reverse ++ m) l w7 o7.out (h1.out.below B7.out)).mono ?_
          rintro e w8 ⟨rfl, b8⟩
          rw [hdd.out]
          have B8 := hid (low' B7.out b8)
          go_wp2
          go_ret
          exact ⟨rfl, B8.out⟩
        | false =>
          rw [hd] at hdd
          go_wp2_with (at_builtin; refine wpList_append_run _ rfl _ _ 22 rfl _ _ _ _ rfl rfl hrun ?_)
          refine (does_any _ _ (m.reverse ++ m) l w7 o7.out (h1.out.below B7.out)).mono ?_
          rintro e w8 ⟨rfl, b8⟩
          rw [hdd.out]
          have B8 := hid (low' B7.out b8)
          go_wp2
          go_ret
          exact ⟨rfl, B8.out⟩
      | succ k =>
        obtain rfl : z = (k : Int) := by omega
        clear hz
        have hlt : k < m.length := by omega
        have hlt' : (k : Int) < (m.length : Int) := by omega
        have hge : (0 : Int) ≤ (k : Int) := by omega
        obtain ⟨b, off, rfl, hc⟩ := (h0.out.below hB.out).at hlt
        obtain ⟨⟨xn, xo, xv⟩, hx⟩ : ∃ x, m[k]? = some x := ⟨_, List.getElem?_eq_getElem hlt⟩
        obtain ⟨d0, d1, d2⟩ := hc k _ hx
        obtain ⟨m0, m1⟩ := h0.out.mid hx
        have hbl := World.block_lt_of_cell? V _ d0
        simp only at d0 d1 d2 hbl m0 m1
        have hmid := h0.out.2.1 _ (List.mem_of_getElem? hx)
        obtain ⟨a7, c7, w7, hrun, o7, b7⟩ := pushM_run ho.out xn xo xv hmid.1 hmid.2 (by simp; omega) hB.out.size
        have hnew : (m.drop (k + 1)).reverse ++ [(xn, xo, xv)] = (m.drop k).reverse := by
          rw [List.drop_eq_getElem_cons hlt, List.reverse_cons]
          rw [List.getElem?_eq_getElem hlt] at hx
          rw [Option.some.inj hx]
        rw [hnew] at o7
        have B7 := hid (hB.out.trans b7)
        have o7' := hid o7
        unfold str opv at *
        clear hc hx hmid o7 b7 hnew ho
        generalize (m.drop (k + 1)).reverse.length = n at *
        go_wp2_with (at_builtin; refine wpList_append_run _ rfl _ _ 22 rfl _ _ _ _ rfl rfl hrun ?_)
        exact ⟨⟨k, _, by omega, rfl, by omega, o7', B7⟩, by simp [intOf]⟩

theorem own : ownKnob Try.prog.godebug = none := by kernel_rfl
theorem laidOut : laidOutB Try.prog = true := by kernel_rfl

set_option maxRecDepth 100000 in
theorem lifted (os : Os) (started : os.Started) (H : Type) (enc : TypeId × Value → H) :
    ReturnsInHanded {} Try.checked os 8 .any (Rows.matchTurnedSpec.pre6 enc Try.prog Try.f8 Rows.matchTurnedRow.domain false) (Rows.matchTurnedSpec.post enc Try.prog Try.f8 false true false false) := by
  refine returnsInHanded_of_change (C := Try.checked) own started (by kernel_rfl) Try.func8
    (ChangeSpec.witness6 (enc := enc) (C := Try.checked) false ⟨#[], #[.slice none 0 0, .slice none 0 0], []⟩ 8 (by kernel_rfl) (by kernel_rfl) (by kernel_rfl) (by kernel_rfl)) ?_
  intro W base args ds gs before hval0 hW hcnd _
  have hval : ∀ (j : Nat) t v, Try.f8.params[j]? = some t → args[j]? = some v → Value.okWide Try.prog W .any base t v := hval0
  have hW' := hW
  obtain ⟨p, q, hA0, hV, rfl, hfz, hnd⟩ := hW
  have hA : DataW.TrodAll enc Try.prog W 0 (fun _ => true) true Try.f8.params.toList args.toList ds p := hA0
  rw [Try.params8] at hA hval
  obtain ⟨v0, vs0, d0, ds0, p0, q0, hargs, rfl, rfl, h0, r0⟩ := trodAll_cons hA
  obtain ⟨v1, vs1, d1, ds1, p1, q1, rfl, rfl, rfl, h1, r1⟩ := trodAll_cons r0
  obtain ⟨rfl, rfl, rfl⟩ := trodAll_nil r1
  obtain rfl : args = #[v0, v1] := by cases args; simp_all
  obtain ⟨rfl, rfl⟩ := trodVars_none hV
  have k0 := h0
  have lt0 : ∀ x ∈ p0, x.block < W.heap.size := by obtain ⟨m, hm⟩ := k0; exact DataW.trod_lt m _ _ _ hm
  obtain ⟨l0, w0⟩ := open_mats (hval 0 22 v0 rfl rfl) h0
  have k1 := h1
  have lt1 : ∀ x ∈ p1, x.block < W.heap.size := by obtain ⟨m, hm⟩ := k1; exact DataW.trod_lt m _ _ _ hm
  obtain ⟨l1, w1⟩ := open_labs (hval 1 23 v1 rfl rfl) h1
  clear hA0 hval0
  refine (walk v0 l0 v1 l1 W w0 w1).mono fun e W' ⟨he, bel⟩ => ?_
  subst he
  exact ⟨_, rfl, _, _, _, [], _, [], hW', trodAll_mk1 (shut_bool Try.underlying4 _), (trodAll_cons_mk (Below.trod laidOut (by kernel_rfl) (of_decide_eq_true (by kernel_rfl)) k0 bel lt0) (trodAll_cons_mk (Below.trod laidOut (by kernel_rfl) (of_decide_eq_true (by kernel_rfl)) k1 bel lt1) trodAll_mk0)), rfl, bel.frame _, fun h => by cases h⟩

theorem over : Rows.matchTurnedRow.holds Try.pinned (OpenSpec.ofChange Rows.matchTurnedSpec) :=
  OpenClaim.holds_of_wide 8 Try.f8 rfl rfl rfl rfl rfl rfl rfl ⟨rfl, rfl, rfl, rfl, rfl⟩ rfl rfl rfl rfl rfl (by kernel_rfl) Try.func8 (by kernel_rfl)
    (of_decide_eq_true (by kernel_rfl)) (by unfold Func.isWrapper; first | (rw [if_pos (by decide +kernel)]; kernel_rfl) | (rw [if_neg (by decide +kernel)]; exact ⟨rfl, rfl⟩))
    (fun os started H enc _ => lifted os started H enc)

theorem proved : Rows.MatchTurnedSaid := over
#print axioms proved

end Go.Proofs.Ythbdghbfhjimkaa.matchTurned
