/- For any name and value and any labels the law MatchOps of the program returns true and leaves the labels as they were: the second kind holds just where the first one with the same value does not; where the first one holds the third one does; the third one with the empty value always does. No condition. -/
import Derived.Test.YthbdghbfhjimkaaG8
import Derived.Test.YthbdghbfhjimkaaA8
import Derived.Test.YthbdghbfhjimkaaX2
namespace Go.Proofs.Ythbdghbfhjimkaa.matchOps
open Go.ChangeShapes Go.WideShapes Go.ChangeAt Go.RowKit
open Go.ChangeMaps (open_string shut_string)
set_option linter.unusedVariables false

theorem does_one (n : Tx) (o : UInt8) (v : Tx) (l : List Lb) : doesM [(n, o, v)] l = asks o (valueL l n) v := by
  unfold doesM does1
  simp
theorem one_any (n : Tx) (o : UInt8) (v : Tx) (vl : Value) (l : List Lb) (W : World) (hn : n.length ≤ maxLen) (hv : v.length ≤ maxLen) (hl : IsLs W vl l) :
    Calls Try.prog 16 #[.slice (some ⟨W.heap.size, 0, none⟩) 1 1, vl] (W.alloc (.cells #[.string ⟨n.toArray⟩, .int .u8 (o.toNat : Int), .string ⟨v.toArray⟩] 37)) fun e w' => e = .returned (.bool (asks o (valueL l n) v)) ∧ Below W.heap.size W w' := by
  refine (does_any _ vl [(n, o, v)] l _ (isMs_one (new_block W _) hn hv) (hl.below (alloc_below _ _))).mono ?_
  rintro e w' ⟨rfl, b⟩
  rw [does_one]
  exact ⟨rfl, low' (alloc_below _ _) b⟩
set_option maxRecDepth 100000 in
set_option maxHeartbeats 4000000 in
theorem walk1 (n v : Tx) (v2 : Value) (l : List Lb) (w : World) (hn : n.length ≤ maxLen) (hv : v.length ≤ maxLen) (h2 : IsLs w v2 l) :
    Calls Try.prog 7 #[str n, str v, v2] w fun e w' => e = .returned (.bool true) ∧ Below w.heap.size w w' := by
  obtain ⟨a2, c2, rfl⟩ := h2.slice
  obtain ⟨-, hb2⟩ := h2.bound
  replace h2 := hid h2
  have hd0 := hid (fun W (h : IsLs W (.slice a2 l.length c2) l) => one_any n 0 v _ l W hn hv h)
  have hd1 := hid (fun W (h : IsLs W (.slice a2 l.length c2) l) => one_any n 1 v _ l W hn hv h)
  have hd2 := hid (fun W (h : IsLs W (.slice a2 l.length c2) l) => one_any n 2 v _ l W hn hv h)
  have hd3 := hid (fun W (h : IsLs W (.slice a2 l.length c2) l) => one_any n 2 [] _ l W hn (by simp) h)
  have e0 : asks 0 (valueL l n) v = (valueL l n == v) := rfl
  have e1 : asks 1 (valueL l n) v = !(valueL l n == v) := rfl
  have e2 : asks 2 (valueL l n) v = Lib.hasPrefix (valueL l n) v := rfl
  have e3 : asks 2 (valueL l n) [] = true := pre_empty (valueL l n)
  rw [e0] at hd0
  rw [e1] at hd1
  rw [e2] at hd2
  rw [e3] at hd3
  have hpp := hid (fun (h : (valueL l n == v) = true) => show Lib.hasPrefix (valueL l n) v = true by rw [beq_iff_eq.1 h]; exact pre_self v)
  clear e0 e1 e2 e3
  generalize (valueL l n == v) = q at *
  generalize Lib.hasPrefix (valueL l n) v = p at *
  unfold maxLen at hn hv
  unfold str
  go_enter Try.func7, Try.ntmps7
  go_wp2_with fail
  refine (awake_any w).mono ?_
  rintro e w3 ⟨rfl, b3⟩
  have B3 := hid b3
  clear b3
  go_wp2_with fail
  refine (great_any _ _ [] l w3 (ownM_nil 0 _).isM (h2.out.below B3.out)).mono ?_
  rintro e w4 ⟨r4, rfl, hf4, q4, rfl⟩
  have B4 := hid (below_drewN (n := q4) B3.out)
  generalize w3.drewN q4 = w4 at *
  clear B3
  cases r4 with
  | true =>
    clear hf4
    go_wp2
    go_ret
    exact ⟨rfl, B4.out⟩
  | false =>
    clear hf4
    by_cases hn5 : 5000 < n.length
    · have d1 : decide (5000 < (n.length : Int)) = true := by simp; omega
      have d1' : decide (5000 < n.length) = true := by simp; omega
      go_wp2
      go_ret
      exact ⟨rfl, B4.out⟩
    have d1 : decide (5000 < (n.length : Int)) = false := by simp; omega
    have d1' : decide (5000 < n.length) = false := by simp; omega
    by_cases hv5 : 5000 < v.length
    · have d2 : decide (5000 < (v.length : Int)) = true := by simp; omega
      have d2' : decide (5000 < v.length) = true := by simp; omega
      go_wp2
      go_ret
      exact ⟨rfl, B4.out⟩
    have d2 : decide (5000 < (v.length : Int)) = false := by simp; omega
    have d2' : decide (5000 < v.length) = false := by simp; omega
    go_wp2_with fail
    refine (hd0.out w4 (h2.out.below B4.out)).mono ?_
    rintro e w5 ⟨rfl, b5⟩
    have B5 := hid (low' B4.out b5)
    clear b5 B4 d1 d1' d2 d2' hn5 hv5 hd0
    go_wp2_with fail
    refine (hd1.out w5 (h2.out.below B5.out)).mono ?_
    rintro e w6 ⟨rfl, b6⟩
    have B6 := hid (low' B5.out b6)
    clear b6 B5 hd1
    go_wp2_with fail
    refine (hd2.out w6 (h2.out.below B6.out)).mono ?_
    rintro e w7 ⟨rfl, b7⟩
    have B7 := hid (low' B6.out b7)
    clear b7 B6 hd2
    cases q with
    | true =>
      obtain rfl := hpp.out rfl
      go_wp2_with fail
      refine (hd3.out w7 (h2.out.below B7.out)).mono ?_
      rintro e w8 ⟨rfl, b8⟩
      have B8 := hid (low' B7.out b8)
      go_wp2
      go_ret
      exact ⟨rfl, B8.out⟩
    | false =>
      go_wp2_with fail
      refine (hd3.out w7 (h2.out.below B7.out)).mono ?_
      rintro e w8 ⟨rfl, b8⟩
      have B8 := hid (low' B7.out b8)
      go_wp2
      go_ret
      exact ⟨rfl, B8.out⟩
theorem walk (n v : ByteArray) (v2 : Value) (l : List Lb) (w : World) (hn : n.size ≤ maxLen) (hv : v.size ≤ maxLen) (h2 : IsLs w v2 l) :
    Calls Try.prog 7 #[.string n, .string v, v2] w fun e w' => e = .returned (.bool true) ∧ Below w.heap.size w w' := by
  rw [str_of n, str_of v]
  exact walk1 _ _ v2 l w hn hv h2

theorem own : ownKnob Try.prog.godebug = none := by kernel_rfl
theorem laidOut : laidOutB Try.prog = true := by kernel_rfl

set_option maxRecDepth 100000 in
theorem lifted (os : Os) (started : os.Started) (H : Type) (enc : TypeId × Value → H) :
    ReturnsInHanded {} Try.checked os 7 .any (Rows.matchOpsSpec.pre6 enc Try.prog Try.f7 Rows.matchOpsRow.domain false) (Rows.matchOpsSpec.post enc Try.prog Try.f7 false true false false) := by
  refine returnsInHanded_of_change (C := Try.checked) own started (by kernel_rfl) Try.func7
    (ChangeSpec.witness6 (enc := enc) (C := Try.checked) false ⟨#[], #[.string ⟨#[]⟩, .string ⟨#[]⟩, .slice none 0 0], []⟩ 8 (by kernel_rfl) (by kernel_rfl) (by kernel_rfl) (by kernel_rfl)) ?_
  intro W base args ds gs before hval0 hW hcnd _
  have hval : ∀ (j : Nat) t v, Try.f7.params[j]? = some t → args[j]? = some v → Value.okWide Try.prog W .any base t v := hval0
  have hW' := hW
  obtain ⟨p, q, hA0, hV, rfl, hfz, hnd⟩ := hW
  have hA : DataW.TrodAll enc Try.prog W 0 (fun _ => true) true Try.f7.params.toList args.toList ds p := hA0
  rw [Try.params7] at hA hval
  obtain ⟨v0, vs0, d0, ds0, p0, q0, hargs, rfl, rfl, h0, r0⟩ := trodAll_cons hA
  obtain ⟨v1, vs1, d1, ds1, p1, q1, rfl, rfl, rfl, h1, r1⟩ := trodAll_cons r0
  obtain ⟨v2, vs2, d2, ds2, p2, q2, rfl, rfl, rfl, h2, r2⟩ := trodAll_cons r1
  obtain ⟨rfl, rfl, rfl⟩ := trodAll_nil r2
  obtain rfl : args = #[v0, v1, v2] := by cases args; simp_all
  obtain ⟨rfl, rfl⟩ := trodVars_none hV
  obtain ⟨a0, rfl, rfl, rfl, w0⟩ := open_string Try.underlying9 (hval 0 9 v0 rfl rfl) h0
  obtain ⟨a1, rfl, rfl, rfl, w1⟩ := open_string Try.underlying9 (hval 1 9 v1 rfl rfl) h1
  have k2 := h2
  have lt2 : ∀ x ∈ p2, x.block < W.heap.size := by obtain ⟨m, hm⟩ := k2; exact DataW.trod_lt m _ _ _ hm
  obtain ⟨l2, w2⟩ := open_labs (hval 2 23 v2 rfl rfl) h2
  clear hA0 hval0
  refine (walk a0 a1 v2 l2 W w0 w1 w2).mono fun e W' ⟨he, bel⟩ => ?_
  subst he
  exact ⟨_, rfl, _, _, _, [], _, [], hW', trodAll_mk1 (shut_bool Try.underlying4 _), (trodAll_cons_mk (shut_string Try.underlying9 w0) (trodAll_cons_mk (shut_string Try.underlying9 w1) (trodAll_cons_mk (Below.trod laidOut (by kernel_rfl) (of_decide_eq_true (by kernel_rfl)) k2 bel lt2) trodAll_mk0))), rfl, bel.frame _, fun h => by cases h⟩

theorem over : Rows.matchOpsRow.holds Try.pinned (OpenSpec.ofChange Rows.matchOpsSpec) :=
  OpenClaim.holds_of_wide 7 Try.f7 rfl rfl rfl rfl rfl rfl rfl ⟨rfl, rfl, rfl, rfl, rfl⟩ rfl rfl rfl rfl rfl (by kernel_rfl) Try.func7 (by kernel_rfl)
    (of_decide_eq_true (by kernel_rfl)) (by unfold Func.isWrapper; first | (rw [if_pos (by decide +kernel)]; kernel_rfl) | (rw [if_neg (by decide +kernel)]; exact ⟨rfl, rfl⟩))
    (fun os started H enc _ => lifted os started H enc)

theorem proved : Rows.MatchOpsSaid := over
#print axioms proved

end Go.Proofs.Ythbdghbfhjimkaa.matchOps
