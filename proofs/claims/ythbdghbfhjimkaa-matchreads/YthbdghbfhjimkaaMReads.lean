/- For any text the law MatchReads of the program returns true: a text is read as matchers as the chapter says, or refused, and what is told is the caller's own. No condition. -/
import Derived.Test.YthbdghbfhjimkaaG8
import Derived.Test.YthbdghbfhjimkaaU10
import Derived.Test.YthbdghbfhjimkaaX5
namespace Go.Proofs.Ythbdghbfhjimkaa.matchReads
open Go.ChangeShapes Go.WideShapes Go.ChangeAt Go.RowKit
open Go.ChangeMaps (open_string shut_string)
set_option linter.unusedVariables false

set_option maxRecDepth 100000 in
set_option maxHeartbeats 2000000 in
theorem walk1 (s : Tx) (w : World) (hs : s.length ≤ maxLen) :
    Calls Try.prog 4 #[str s] w fun e w' => e = .returned (.bool true) ∧ Below w.heap.size w w' := by
  unfold maxLen at hs
  by_cases hs5 : 5000 < s.length
  · have hs5' : (5000 : Int) < (s.length : Int) := by omega
    unfold str
    go_enter Try.func4, Try.ntmps4
    go_wp2
    go_ret
    exact ⟨rfl, Below.refl _ _⟩
  have hs5' : ¬ (5000 : Int) < (s.length : Int) := by omega
  have hpar := hid (fun w => mparse_any s w (by omega))
  have hrp := hid (rparse_any s w (by omega))
  unfold str at *
  go_enter Try.func4, Try.ntmps4
  go_wp2_with fail
  refine hrp.out.mono ?_
  rintro e w1 ⟨b1, hp⟩
  cases hps : parseM s with
  | none =>
    rw [hps] at hp hpar
    subst hp
    have B1 := hid b1
    clear b1 hrp hps
    go_wp2
    go_loopw [6] (fun tv wr => ∃ j : Nat, j ≤ 2 ∧ tv = .int .i64 (j : Int) ∧ Hid (Below w.heap.size w wr)) (fun tv _ => 2 - (intOf tv).toNat)
    case atStart => exact ⟨0, by omega, rfl, B1.out⟩
    case round =>
      obtain ⟨j, hj, rfl, hB⟩ := hrel
      clear B1
      obtain ⟨V, rfl⟩ : ∃ V : World, V = wr := ⟨_, rfl⟩
      by_cases hlt : j < 2
      · have hlt' : (j : Int) < 2 := by omega
        go_wp2_with fail
        refine (hpar.out V).mono ?_
        rintro e w2 ⟨b2, hp2⟩
        subst hp2
        have B2 := hid (low' hB.out b2)
        clear b2 hB
        go_wp2_with fail
        refine (sameM_any _ _ [] [] w2 (ownM_nil 0 _).isM (ownM_nil 0 _).isM).mono ?_
        rintro e w3 ⟨rfl, q3, rfl⟩
        have B3 := hid (below_drewN (n := q3) B2.out)
        generalize w2.drewN q3 = w3 at *
        clear B2
        go_wp2
        go_loopw [10] (fun kv wr => ∃ k : Nat, k ≤ 0 ∧ kv = .int .i64 (k : Int) ∧ Hid (Below w.heap.size w wr)) (fun kv _ => 0 - (intOf kv).toNat)
        case atStart => exact ⟨0, by omega, rfl, B3.out⟩
        case round =>
          obtain ⟨k, hk, rfl, hB⟩ := hrel
          obtain rfl : k = 0 := by omega
          clear B3
          go_wp2
          exact ⟨⟨j + 1, by omega, by go_num, hB⟩, by simp [intOf]; omega⟩
      · have hlt' : ¬ (j : Int) < 2 := by omega
        obtain rfl : j = 2 := by omega
        go_wp2
        go_ret
        exact ⟨rfl, hB.out⟩
  | some q =>
    obtain ⟨l, t⟩ := q
    rw [hps] at hp hpar
    obtain ⟨v1, rfl, o1⟩ := hp
    obtain ⟨a1, c1, rfl⟩ := o1.slice
    have B1 := hid b1
    replace o1 := hid o1
    clear b1 hrp hps
    have htt : (t == t) = true := by simp
    have hll : (l == l) = true := by simp
    go_wp2
    go_loopw [6] (fun tv wr => ∃ j : Nat, j ≤ 2 ∧ tv = .int .i64 (j : Int) ∧ Hid (OwnM w.heap.size wr (.slice a1 l.length c1) l) ∧ Hid (Below w.heap.size w wr)) (fun tv _ => 2 - (intOf tv).toNat)
    case atStart => exact ⟨0, by omega, rfl, o1.out, B1.out⟩
    case round =>
      obtain ⟨j, hj, rfl, ho, hB⟩ := hrel
      clear B1 o1
      obtain ⟨V, rfl⟩ : ∃ V : World, V = wr := ⟨_, rfl⟩
      by_cases hlt : j < 2
      · have hlt' : (j : Int) < 2 := by omega
        go_wp2_with fail
        refine (hpar.out V).mono ?_
        rintro e w2 ⟨b2, v2, rfl, o2⟩
        obtain ⟨a2, c2, rfl⟩ := o2.slice
        have C2 := hid b2
        replace o2 := hid o2
        go_wp2_with fail
        refine (sameM_any _ _ l l w2 o2.out.isM (ho.out.below b2).isM).mono ?_
        rintro e w3 ⟨rfl, q3, rfl⟩
        rw [hll]
        clear b2
        have C3 := hid (below_drewN (n := q3) C2.out)
        have o3 := hid (o2.out.below (below_drewN (n := q3) (Below.refl _ _)))
        generalize w2.drewN q3 = w3 at *
        clear C2 o2
        have hgB : ∀ g, a2 = some ⟨g, 0, none⟩ → V.heap.size ≤ g := fun g hg => by
          subst hg
          exact (o3.out.lt (k := g) rfl).1
        have hrow : Hid (0 < l.length → ∃ g, a2 = some ⟨g, 0, none⟩ ∧ ∃ cur : Array Value, w3.heap[g]? = some (.cells cur 37) ∧ l.length * 3 ≤ cur.size) := fun hl => by
          rcases o3.out.form with ⟨_, e⟩ | ⟨g, c', cur, e, h4, h5, h6, h7, h8, h9⟩
          · subst e; simp at hl
          · cases e
            exact ⟨g, rfl, cur, h7, by omega⟩
        have hlc := o3.out.isM.bound
        have hbk : Hid (∀ W, Below V.heap.size V W → Below w.heap.size w W) := fun W hW => low' hB.out hW
        have hok : Hid (∀ W, Below V.heap.size V W → OwnM w.heap.size W (.slice a1 l.length c1) l) := fun W hW => ho.out.below hW
        replace hgB := hid hgB
        clear o3 ho hB
        go_wp2
        go_loopw [10] (fun kv wr => ∃ k : Nat, k ≤ l.length ∧ kv = .int .i64 (k : Int) ∧ Hid (0 < l.length → ∃ g, a2 = some ⟨g, 0, none⟩ ∧ ∃ cur : Array Value, wr.heap[g]? = some (.cells cur 37) ∧ l.length * 3 ≤ cur.size) ∧ Hid (Below V.heap.size V wr)) (fun kv _ => l.length - (intOf kv).toNat)
        case atStart => exact ⟨0, by omega, rfl, hrow, C3.out⟩
        case round =>
          obtain ⟨k, hk, rfl, hrw, hC⟩ := hrel
          clear C3 hrow
          obtain ⟨U, rfl⟩ : ∃ U : World, U = wr := ⟨_, rfl⟩
          by_cases hkl : k < l.length
          · have hkl' : (k : Int) < (l.length : Int) := by omega
            obtain ⟨g, rfl, cur, hcur, hcs⟩ := hrw.out (by omega)
            have hg := hgB.out g rfl
            have f0 := frozen_of hcur (k * 3)
            have hk2 : k * 3 < cur.size := by omega
            have g0 : U.cell? ⟨g, k * 3, none⟩ = some (cur[k * 3]'hk2) := by rw [cell_of hcur, Array.getElem?_eq_getElem hk2]
            have hnew : ∀ x : Value, Hid (0 < l.length → ∃ g', (some ⟨g, 0, none⟩ : Option Addr) = some ⟨g', 0, none⟩ ∧ ∃ cur : Array Value, (U.setCell ⟨g, k * 3, none⟩ x).heap[g']? = some (.cells cur 37) ∧ l.length * 3 ≤ cur.size) := fun x _ => ⟨g, rfl, _, heap_set_at hcur x, by simpa using hcs⟩
            have hCn : ∀ x : Value, Hid (Below V.heap.size V (U.setCell ⟨g, k * 3, none⟩ x)) := fun x => hC.out.trans ⟨rfl, rfl, rfl, by rw [size_set]; exact Nat.le_refl _, fun b hb => heap_set _ _ _ _ _ (by omega)⟩
            replace hnew := hid hnew
            replace hCn := hid hCn
            generalize cur[k * 3]'hk2 = old at *
            clear hrw hcur hk2
            go_wp2
            exact ⟨⟨k + 1, by omega, by go_num, hnew.out _, hCn.out _⟩, by simp [intOf]; omega⟩
          · have hkl' : ¬ (k : Int) < (l.length : Int) := by omega
            obtain rfl : k = l.length := by omega
            go_wp2
            exact ⟨⟨j + 1, by omega, by go_num, hok.out _ hC.out, hbk.out _ hC.out⟩, by simp [intOf]; omega⟩
      · have hlt' : ¬ (j : Int) < 2 := by omega
        obtain rfl : j = 2 := by omega
        go_wp2
        go_ret
        exact ⟨rfl, hB.out⟩
theorem walk (s : ByteArray) (w : World) (hs : s.size ≤ maxLen) :
    Calls Try.prog 4 #[.string s] w fun e w' => e = .returned (.bool true) ∧ Below w.heap.size w w' := by
  rw [str_of s]
  exact walk1 _ w hs

theorem own : ownKnob Try.prog.godebug = none := by kernel_rfl
theorem laidOut : laidOutB Try.prog = true := by kernel_rfl

set_option maxRecDepth 100000 in
theorem lifted (os : Os) (started : os.Started) (H : Type) (enc : TypeId × Value → H) :
    ReturnsInHanded {} Try.checked os 4 .any (Rows.matchReadsSpec.pre6 enc Try.prog Try.f4 Rows.matchReadsRow.domain false) (Rows.matchReadsSpec.post enc Try.prog Try.f4 false true false false) := by
  refine returnsInHanded_of_change (C := Try.checked) own started (by kernel_rfl) Try.func4
    (ChangeSpec.witness6 (enc := enc) (C := Try.checked) false ⟨#[], #[.string ⟨#[]⟩], []⟩ 8 (by kernel_rfl) (by kernel_rfl) (by kernel_rfl) (by kernel_rfl)) ?_
  intro W base args ds gs before hval0 hW hcnd _
  have hval : ∀ (j : Nat) t v, Try.f4.params[j]? = some t → args[j]? = some v → Value.okWide Try.prog W .any base t v := hval0
  have hW' := hW
  obtain ⟨p, q, hA0, hV, rfl, hfz, hnd⟩ := hW
  have hA : DataW.TrodAll enc Try.prog W 0 (fun _ => true) true Try.f4.params.toList args.toList ds p := hA0
  rw [Try.params4] at hA hval
  obtain ⟨v0, vs0, d0, ds0, p0, q0, hargs, rfl, rfl, h0, r0⟩ := trodAll_cons hA
  obtain ⟨rfl, rfl, rfl⟩ := trodAll_nil r0
  obtain rfl : args = #[v0] := by cases args; simp_all
  obtain ⟨rfl, rfl⟩ := trodVars_none hV
  obtain ⟨a0, rfl, rfl, rfl, w0⟩ := open_string Try.underlying9 (hval 0 9 v0 rfl rfl) h0
  clear hA0 hval0
  refine (walk a0 W w0).mono fun e W' ⟨he, bel⟩ => ?_
  subst he
  exact ⟨_, rfl, _, _, _, [], _, [], hW', trodAll_mk1 (shut_bool Try.underlying4 _), (trodAll_cons_mk (shut_string Try.underlying9 w0) trodAll_mk0), rfl, bel.frame _, fun h => by cases h⟩

theorem over : Rows.matchReadsRow.holds Try.pinned (OpenSpec.ofChange Rows.matchReadsSpec) :=
  OpenClaim.holds_of_wide 4 Try.f4 rfl rfl rfl rfl rfl rfl rfl ⟨rfl, rfl, rfl, rfl, rfl⟩ rfl rfl rfl rfl rfl (by kernel_rfl) Try.func4 (by kernel_rfl)
    (of_decide_eq_true (by kernel_rfl)) (by unfold Func.isWrapper; first | (rw [if_pos (by decide +kernel)]; kernel_rfl) | (rw [if_neg (by decide +kernel)]; exact ⟨rfl, rfl⟩))
    (fun os started H enc _ => lifted os started H enc)

theorem proved : Rows.MatchReadsSaid := over
#print axioms proved

end Go.Proofs.Ythbdghbfhjimkaa.matchReads
