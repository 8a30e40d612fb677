/- For any labels and any number the law MatchOwn of the program returns true and leaves the labels as they were: the matchers that say each label of a row hold for it, and with one value otherwise they do not. No condition. -/
import Derived.Test.YthbdghbfhjimkabG8
import Derived.Test.YthbdghbfhjimkabA8
import Derived.Test.YthbdghbfhjimkabX1
import Derived.Deep.RegionLaw
namespace Go.Proofs.Ythbdghbfhjimkab.matchOwn
open Go.ChangeShapes Go.WideShapes Go.ChangeAt Go.RowKit
open Go.ChangeMaps (open_string shut_string)
set_option linter.unusedVariables false

/-- append as a step of a region. -/
theorem step_append {P : Program} {ops : Array Oper} {o : Oper} {a : Act} {w : World} {K : Act → World → Prop} {Q : Exit → Act → World → Prop} {E : Prop}
    (hg : o.guard = none) (s x : Operand) (t : TypeId) (hop : o.op = Op.call { callee := Callee.builtin Builtin.append, args := #[s, x], argTypes := #[t, t] }) (v v2 v' : Value) (w' : World)
    (hs : a.eval s = v) (hx : a.eval x = v2) (hrun : ∀ ty, (Builtin.append_ #[t, t] ty #[v, v2]).run P w = .ok v' w') (hK : K (a.put o.dst v') w') :
    if Region.wanted o (yielded ops a.tmps) = true then Oper.wp P o a w K Q else E := by
  have hw : Region.wanted o (yielded ops a.tmps) = true := by simp [Region.wanted, hg]
  rw [if_pos hw]
  unfold Oper.wp
  simp [execOp, hop, resolve, invoke, builtin, hs, hx, hrun, Result.andThen]
  exact hK
/-- the matchers that say each label. -/
def say (x : Lb) : Mt := (x.1, 0, x.2)
theorem asks0 (a b : Tx) : asks 0 a b = (a == b) := rfl
theorem own_yes {l : List Lb} (hu : ∀ (i k : Nat) (x y : Lb), k < i → l[i]? = some x → l[k]? = some y → y.1 ≠ x.1) : doesM (l.map say) l = true := by
  unfold doesM
  rw [List.all_map, List.all_eq_true]
  intro x hx
  obtain ⟨i, hi⟩ := List.mem_iff_getElem?.1 hx
  show asks 0 (valueL l x.1) x.2 = true
  rw [asks0, value_at l i x hi (fun k y hk hy => hu i k x y hk hi hy)]
  simp
theorem own_no {l : List Lb} (hu : ∀ (i k : Nat) (x y : Lb), k < i → l[i]? = some x → l[k]? = some y → y.1 ≠ x.1) {i : Nat} {x : Lb} (hi : l[i]? = some x) (v : Tx) (hv : x.2 ≠ v) : doesM ((l.map say).set i (x.1, 0, v)) l = false := by
  unfold doesM
  rw [List.all_eq_false]
  have hlt := (List.getElem?_eq_some_iff.1 hi).1
  refine ⟨(x.1, 0, v), ?_, ?_⟩
  · refine List.mem_of_getElem? (i := i) ?_
    rw [List.getElem?_set_self (by simpa using hlt)]
  · show ¬ asks 0 (valueL l x.1) v = true
    rw [asks0, value_at l i x hi (fun k y hk hy => hu i k x y hk hi hy)]
    simpa using hv
theorem isMs_set {w : World} {g c : Nat} {m : List Mt} {cur : Array Value} (hb : w.heap[g]? = some (.cells cur 29)) (h : IsMs w (.slice (some ⟨g, 0, none⟩) m.length c) m) {i : Nat} {x : Mt} (hx : m[i]? = some x) (v : Tx) (hv : v.length ≤ maxLen) :
    IsMs (w.setCell ⟨g, i * 3 + 2, none⟩ (str v)) (.slice (some ⟨g, 0, none⟩) m.length c) (m.set i (x.1, x.2.1, v)) := by
  have hi := (List.getElem?_eq_some_iff.1 hx).1
  obtain ⟨b', off, e, hc⟩ := h.at hi
  cases e
  obtain ⟨h1, h2, a, c', e, h4, h5, _⟩ := h
  cases e
  have hsz : i * 3 + 2 < cur.size := by
    have := (hc i x hx).2.2
    rw [cell_of hb, Nat.zero_add] at this
    exact (Array.getElem?_eq_some_iff.1 this).1
  refine ⟨by simpa using h1, fun y hy => ?_, _, c, by simp, by simpa using h4, h5, .inr ⟨g, 0, rfl, fun j y hy => ?_⟩⟩
  · rcases List.mem_or_eq_of_mem_set hy with hy | rfl
    · exact h2 y hy
    · exact ⟨(h2 x (List.mem_of_getElem? hx)).1, hv⟩
  · rw [cell_of (heap_set_at hb _), cell_of (heap_set_at hb _), cell_of (heap_set_at hb _), Nat.zero_add]
    by_cases hji : j = i
    · subst hji
      rw [List.getElem?_set_self hi] at hy
      cases hy
      have := hc j x hx
      rw [cell_of hb, cell_of hb, cell_of hb, Nat.zero_add] at this
      refine ⟨?_, ?_, ?_⟩
      · rw [Array.getElem?_setIfInBounds_ne (by omega)]; exact this.1
      · rw [Array.getElem?_setIfInBounds_ne (by omega)]; exact this.2.1
      · rw [Array.getElem?_setIfInBounds_self_of_lt hsz]
    · rw [List.getElem?_set_ne (fun e => hji e.symm)] at hy
      have := hc j y hy
      rw [cell_of hb, cell_of hb, cell_of hb, Nat.zero_add] at this
      refine ⟨?_, ?_, ?_⟩
      · rw [Array.getElem?_setIfInBounds_ne (by omega)]; exact this.1
      · rw [Array.getElem?_setIfInBounds_ne (by omega)]; exact this.2.1
      · rw [Array.getElem?_setIfInBounds_ne (by omega)]; exact this.2.2
set_option maxRecDepth 100000 in
set_option maxHeartbeats 2000000 in
theorem walk (v0 : Value) (l : List Lb) (z : Int) (w : World) (h0 : IsLs w v0 l) (hz : (Lit.int .i64 z).wf = true) :
    Calls Try.prog 3 #[v0, .int .i64 z] w fun e w' => e = .returned (.bool true) ∧ Below w.heap.size w w' := by
  obtain ⟨a0, c0, rfl⟩ := h0.slice
  obtain ⟨-, hb⟩ := h0.bound
  replace h0 := hid h0
  clear hz
  go_enter Try.func3, Try.ntmps3
  go_wp2_with fail
  refine (awake_any w).mono ?_
  rintro e w0 ⟨rfl, b0⟩
  have B0 := hid b0
  clear b0
  go_wp2_with fail
  refine (great_any _ _ [] l w0 (ownM_nil 0 _).isM (h0.out.below B0.out)).mono ?_
  rintro e w1 ⟨r1, rfl, hfit, q1, rfl⟩
  have B1 := hid (below_drewN (n := q1) B0.out)
  generalize w0.drewN q1 = w1 at *
  clear B0
  cases r1 with
  | true =>
    clear hfit
    go_wp2
    go_ret
    exact ⟨rfl, B1.out⟩
  | false =>
    have hl100 := (hfit rfl).2.1
    have hmid := hid (fun x (hx : x ∈ l) => (hfit rfl).atL hx)
    clear hfit
    go_wp2
    go_loopw [5, 6] (fun tv iv wr => ∃ (j : Nat), j ≤ l.length ∧ iv = .int .i64 (j : Int) ∧ Hid (∀ (i k : Nat) (x y : Lb), i < j → k < i → l[i]? = some x → l[k]? = some y → y.1 ≠ x.1) ∧ Hid (OwnM w.heap.size wr tv ((l.take j).map say)) ∧ Hid (Below w.heap.size w wr)) (fun _ iv _ => l.length - (intOf iv).toNat)
    case atStart => exact ⟨0, by omega, rfl, (fun i k x y hi => by omega), ownM_nil _ _, B1.out⟩
    case round =>
      obtain ⟨j, hj, rfl, hu, ho, hB⟩ := hrel
      clear B1
      obtain ⟨V, rfl⟩ : ∃ V : World, V = wr := ⟨_, rfl⟩
      obtain ⟨ta, tc, rfl⟩ := ho.out.slice
      by_cases hlt : j < l.length
      · have hlt' : (j : Int) < (l.length : Int) := by omega
        obtain ⟨b, off, rfl, hc⟩ := (h0.out.below hB.out).at hlt
        obtain ⟨⟨xn, xv⟩, hx⟩ : ∃ x, l[j]? = some x := ⟨_, List.getElem?_eq_getElem hlt⟩
        obtain ⟨d0, d1⟩ := hc j _ hx
        have hbl := World.block_lt_of_cell? V _ d0
        simp only at d0 d1 hbl
        have hcells := hid hc
        unfold str at *
        clear hc
        go_wp2
        go_loopw [7] (fun iv wr => ∃ (k q : Nat), k ≤ j ∧ iv = .int .i64 (k : Int) ∧ Hid (∀ i y, i < k → l[i]? = some y → y.1 ≠ xn) ∧ wr = V.drewN q) (fun iv _ => j - (intOf iv).toNat)
        case atStart => exact ⟨0, 0, by omega, rfl, (fun i y hi => by omega), rfl⟩
        case round =>
          obtain ⟨k, q, hk, rfl, hn, rfl⟩ := hrel
          have e0 : (V.drewN q).cell? ⟨b, off + j * 2, none⟩ = some (.string ⟨xn.toArray⟩) := d0
          have e1 : (V.drewN q).cell? ⟨b, off + j * 2 + 1, none⟩ = some (.string ⟨xv.toArray⟩) := d1
          by_cases hkj : k < j
          · have hkj' : (k : Int) < (j : Int) := by omega
            have hkl' : (k : Int) < (l.length : Int) := by omega
            obtain ⟨⟨yn, yv⟩, hy⟩ : ∃ y, l[k]? = some y := ⟨_, List.getElem?_eq_getElem (by omega)⟩
            have f0 := (hcells.out k _ hy).1
            have g0 : (V.drewN q).cell? ⟨b, off + k * 2, none⟩ = some (.string ⟨yn.toArray⟩) := f0
            have hBq := hid (fun n => below_drewN (n := n) (below_drewN (n := q) hB.out))
            have hdd : Hid (∀ n, ∃ q', (V.drewN q).drewN n = V.drewN q') := fun n => ⟨_, World.drewN_drewN ..⟩
            by_cases hyx : yn = xn
            · have t1 : (yn == xn) = true := by simpa using hyx
              clear hn hy hx f0 hu ho d0 d1 hyx hdd
              generalize V.drewN q = U at *
              go_wp2
              go_quiet (fail)
              go_wp2
              go_ret
              exact ⟨rfl, hBq.out nq⟩
            · have t1 : (yn == xn) = false := by simpa using hyx
              have hn' : Hid (∀ i y, i < k + 1 → l[i]? = some y → y.1 ≠ xn) := fun i y hi hy' => by
                by_cases e : i = k
                · subst e
                  rw [hy] at hy'
                  cases hy'
                  exact hyx
                · exact hn.out i y (by omega) hy'
              clear hn hy hx f0 hu ho d0 d1 hyx hBq
              generalize V.drewN q = U at *
              go_wp2
              go_quiet (fail)
              go_wp2
              obtain ⟨q', hq'⟩ := hdd.out nq
              exact ⟨⟨k + 1, q', by omega, by go_num, hn', hq'⟩, by simp [intOf]; omega⟩
          · have hkj' : ¬ (k : Int) < (j : Int) := by omega
            obtain rfl : k = j := by omega
            have hmx := hmid.out _ (List.mem_of_getElem? hx)
            simp only at hmx
            have htl : ((l.take k).map say).length = k := by simp; omega
            have bVU := below_drewN (n := q) (Below.refl V.heap.size V)
            have ho2 := ho.out.below bVU
            have hBV := low' hB.out bVU
            clear ho d0 d1
            generalize V.drewN q = U at *
            have hbase : w.heap.size ≤ U.heap.size := hBV.size
            have hu' : Hid (∀ (i k' : Nat) (x y : Lb), i < k + 1 → k' < i → l[i]? = some x → l[k']? = some y → y.1 ≠ x.1) := fun i k' x y hi hk' h1 h2 => by
              by_cases e : i = k
              · subst e
                rw [hx] at h1
                cases h1
                exact hn.out k' y hk' h2
              · exact hu.out i k' x y (by omega) hk' h1 h2
            have hnew : (l.take k).map say ++ [(xn, 0, xv)] = (l.take (k + 1)).map say := by
              rw [List.take_succ_eq_append_getElem hlt, List.map_append]
              rw [List.getElem?_eq_getElem hlt] at hx
              rw [Option.some.inj hx]
              rfl
            have hch : ∀ n : Nat, ∃ p : Option Addr × Nat × World, (∀ ty, (Builtin.append_ #[25, 25] ty #[.slice ta k tc, .slice (some ⟨U.heap.size, 0, none⟩) 1 1]).run Try.prog ((U.drewN n).alloc (.cells #[.string ⟨xn.toArray⟩, .int .u8 0, .string ⟨xv.toArray⟩] 29)) = .ok (.slice p.1 (k + 1) p.2.1) p.2.2) ∧ OwnM w.heap.size p.2.2 (.slice p.1 (k + 1) p.2.1) ((l.take (k + 1)).map say) ∧ Below w.heap.size w p.2.2 := fun n => by
              have bb := below_drewN (n := n) (Below.refl U.heap.size U)
              have oo := ho2.below bb
              obtain ⟨a7, c7, w7, hrun, o7, b7⟩ := pushM_run oo xn 0 xv (by unfold maxLen; omega) (by unfold maxLen; omega) (by rw [htl]; omega) hbase
              rw [hnew] at o7
              rw [htl] at hrun o7
              exact ⟨(a7, c7, w7), hrun, o7, (low' hBV bb).trans b7⟩
            obtain ⟨P, hP⟩ := Classical.axiomOfChoice hch
            have RUN := hid (fun n => (hP n).1)
            have FIN := hid (fun n => (hP n).2)
            clear hch hP hn hu ho2 hx hBV hnew htl hmx bVU
            go_wp2_with fail
            go_region_law (first | refine step_append rfl (.tmp 34) (.tmp 46) 25 rfl _ _ _ _ (by simp [Act.eval]) (by simp [Act.eval]) (RUN.out 0) ?_ | refine step_append rfl (.tmp 34) (.tmp 46) 25 rfl _ _ _ _ (by simp [Act.eval]) (by simp [Act.eval]) (RUN.out 1) ?_ | refine step_append rfl (.tmp 34) (.tmp 46) 25 rfl _ _ _ _ (by simp [Act.eval]) (by simp [Act.eval]) (RUN.out 2) ?_ | refine step_append rfl (.tmp 34) (.tmp 46) 25 rfl _ _ _ _ (by simp [Act.eval]) (by simp [Act.eval]) (RUN.out 3) ?_)
            all_goals go_wp2
            all_goals first
              | exact ⟨⟨k + 1, by omega, by go_num, hu', (FIN.out 1).1, (FIN.out 1).2⟩, by simp [intOf]; omega⟩
              | exact ⟨⟨k + 1, by omega, by go_num, hu', (FIN.out 0).1, (FIN.out 0).2⟩, by simp [intOf]; omega⟩
              | exact ⟨⟨k + 1, by omega, by go_num, hu', (FIN.out 2).1, (FIN.out 2).2⟩, by simp [intOf]; omega⟩
      · have hlt' : ¬ (j : Int) < (l.length : Int) := by omega
        obtain rfl : j = l.length := by omega
        rw [List.take_length] at ho
        have hul : ∀ (i k : Nat) (x y : Lb), k < i → l[i]? = some x → l[k]? = some y → y.1 ≠ x.1 := fun i k x y hk h1 h2 => hu.out i k x y (List.getElem?_eq_some_iff.1 h1).1 hk h1 h2
        have hml : (l.map say).length = l.length := by simp
        rw [hml] at ho
        clear hu hlt
        go_wp2_with fail
        refine (does_any _ _ (l.map say) l V ho.out.isM (h0.out.below hB.out)).mono ?_
        rintro e w2 ⟨rfl, b2⟩
        rw [own_yes hul]
        have B2 := hid (low' hB.out b2)
        have o2 := hid (ho.out.below b2)
        replace hul := hid hul
        clear b2 hB ho
        by_cases hz0 : z < 0
        · have d1 : decide (z < 0) = true := by simpa using hz0
          clear hz0
          go_wp2
          go_ret
          exact ⟨rfl, B2.out⟩
        have d1 : decide (z < 0) = false := by simpa using hz0
        obtain ⟨i, rfl⟩ : ∃ i : Nat, z = (i : Int) := ⟨z.toNat, by omega⟩
        by_cases hil : l.length ≤ i
        · have d2 : decide ((l.length : Int) ≤ (i : Int)) = true := by simp; omega
          have d2' : decide (l.length ≤ i) = true := by simp; omega
          go_wp2
          go_ret
          exact ⟨rfl, B2.out⟩
        have d2 : decide ((l.length : Int) ≤ (i : Int)) = false := by simp; omega
        have d2' : decide (l.length ≤ i) = false := by simp; omega
        have hi' : (i : Int) < (l.length : Int) := by omega
        have hi0 : (0 : Int) ≤ (i : Int) := by omega
        obtain ⟨⟨xn, xv⟩, hx⟩ : ∃ x, l[i]? = some x := ⟨_, List.getElem?_eq_getElem (by omega)⟩
        have hmx := hmid.out _ (List.mem_of_getElem? hx)
        simp only at hmx
        have hmx2 : (l.map say)[i]? = some (xn, 0, xv) := by rw [List.getElem?_map, hx]; rfl
        obtain ⟨g, hta, cur, hcur⟩ : ∃ g, ta = some ⟨g, 0, none⟩ ∧ ∃ cur : Array Value, w2.heap[g]? = some (.cells cur 29) := by
          rcases o2.out.form with ⟨_, e⟩ | ⟨g, c', cur, e, _, _, _, h7, _, _⟩
          · have := congrArg List.length e
            rw [hml, List.length_nil] at this
            omega
          · rw [hml] at e
            cases e
            exact ⟨g, rfl, cur, h7⟩
        subst hta
        have hgB := (o2.out.lt (k := g) rfl).1
        have oM := o2.out.isM
        have oM2 := oM
        rw [← hml] at oM2
        obtain ⟨b', off, e, hcc⟩ := oM2.at (k := i) (by rw [hml]; omega)
        cases e
        have c2 := (hcc i _ hmx2).2.2
        simp only [Nat.zero_add] at c2
        have fz := frozen_of hcur (i * 3 + 2)
        have hset := hid (isMs_set hcur oM2 hmx2 (xv ++ [120]) (by unfold maxLen; simp; omega))
        rw [hml] at hset
        have hno := hid (own_no hul.out hx (xv ++ [120]) (by simp))
        have hlow : Hid (Below w.heap.size w (w2.setCell ⟨g, i * 3 + 2, none⟩ (str (xv ++ [120])))) := B2.out.trans ⟨rfl, rfl, rfl, by rw [size_set]; exact Nat.le_refl _, fun k hk => heap_set _ _ _ _ _ (by omega)⟩
        have hcat : (⟨xv.toArray⟩ : ByteArray) ++ ⟨#[120]⟩ = ⟨(xv ++ [120]).toArray⟩ := by
          rw [show (⟨#[120]⟩ : ByteArray) = ⟨([120] : Tx).toArray⟩ from rfl]
          apply ByteArray.ext
          simp
        have k1 : (9223372036854775807 < xv.length + 1) = False := eq_false (by omega)
        unfold str at *
        clear hul hmx2 hx hmx hcc oM oM2 hcur o2 hmid hgB
        generalize (l.map say).set i (xn, 0, xv ++ [120]) = M2 at *
        generalize xv ++ [120] = x2 at *
        go_wp2_with fail
        refine (does_any _ _ M2 l _ hset.out (h0.out.below hlow.out)).mono ?_
        rintro e w5 ⟨rfl, b5⟩
        rw [hno.out]
        have B5 := hid (low' hlow.out b5)
        go_wp2
        go_ret
        exact ⟨rfl, B5.out⟩

theorem own : ownKnob Try.prog.godebug = none := by kernel_rfl
theorem laidOut : laidOutB Try.prog = true := by kernel_rfl

set_option maxRecDepth 100000 in
theorem lifted (os : Os) (started : os.Started) (H : Type) (enc : TypeId × Value → H) :
    ReturnsInHanded {} Try.checked os 3 .any (Rows.matchOwnSpec.pre6 enc Try.prog Try.f3 Rows.matchOwnRow.domain false) (Rows.matchOwnSpec.post enc Try.prog Try.f3 false true false false) := by
  refine returnsInHanded_of_change (C := Try.checked) own started (by kernel_rfl) Try.func3
    (ChangeSpec.witness6 (enc := enc) (C := Try.checked) false ⟨#[], #[.slice none 0 0, .int .i64 0], []⟩ 8 (by kernel_rfl) (by kernel_rfl) (by kernel_rfl) (by kernel_rfl)) ?_
  intro W base args ds gs before hval0 hW hcnd _
  have hval : ∀ (j : Nat) t v, Try.f3.params[j]? = some t → args[j]? = some v → Value.okWide Try.prog W .any base t v := hval0
  have hW' := hW
  obtain ⟨p, q, hA0, hV, rfl, hfz, hnd⟩ := hW
  have hA : DataW.TrodAll enc Try.prog W 0 (fun _ => true) true Try.f3.params.toList args.toList ds p := hA0
  rw [Try.params3] at hA hval
  obtain ⟨v0, vs0, d0, ds0, p0, q0, hargs, rfl, rfl, h0, r0⟩ := trodAll_cons hA
  obtain ⟨v1, vs1, d1, ds1, p1, q1, rfl, rfl, rfl, h1, r1⟩ := trodAll_cons r0
  obtain ⟨rfl, rfl, rfl⟩ := trodAll_nil r1
  obtain rfl : args = #[v0, v1] := by cases args; simp_all
  obtain ⟨rfl, rfl⟩ := trodVars_none hV
  have k0 := h0
  have lt0 : ∀ x ∈ p0, x.block < W.heap.size := by obtain ⟨m, hm⟩ := k0; exact DataW.trod_lt m _ _ _ hm
  obtain ⟨l0, w0⟩ := open_labs (hval 0 22 v0 rfl rfl) h0
  obtain ⟨a1, rfl, rfl, rfl, w1⟩ := open_int Try.underlying3 (hval 1 3 v1 rfl rfl) h1
  clear hA0 hval0
  refine (walk v0 l0 a1 W w0 w1).mono fun e W' ⟨he, bel⟩ => ?_
  subst he
  exact ⟨_, rfl, _, _, _, [], _, [], hW', trodAll_mk1 (shut_bool Try.underlying4 _), (trodAll_cons_mk (Below.trod laidOut (by kernel_rfl) (of_decide_eq_true (by kernel_rfl)) k0 bel lt0) (trodAll_cons_mk (shut_int Try.underlying3 w1) trodAll_mk0)), rfl, bel.frame _, fun h => by cases h⟩

theorem over : Rows.matchOwnRow.holds Try.pinned (OpenSpec.ofChange Rows.matchOwnSpec) :=
  OpenClaim.holds_of_wide 3 Try.f3 rfl rfl rfl rfl rfl rfl rfl ⟨rfl, rfl, rfl, rfl, rfl⟩ rfl rfl rfl rfl rfl (by kernel_rfl) Try.func3 (by kernel_rfl)
    (of_decide_eq_true (by kernel_rfl)) (by unfold Func.isWrapper; first | (rw [if_pos (by decide +kernel)]; kernel_rfl) | (rw [if_neg (by decide +kernel)]; exact ⟨rfl, rfl⟩))
    (fun os started H enc _ => lifted os started H enc)

theorem proved : Rows.MatchOwnSaid := over
#print axioms proved

end Go.Proofs.Ythbdghbfhjimkab.matchOwn
