/- For any slice of values and any byte the law CodecBack of the program returns true and leaves them as they were: what a script of values wrote is told again by the same script, and then nothing is left; a byte more is told by Done. No condition. -/
import Derived.Test.YthhfahnlcoiblaaO3
import Derived.Deep.RegionHeld3
import Derived.Deep.CutBlock
namespace Go.Proofs.Ythhfahnlcoiblaa.codecBack
open Go.ChangeShapes Go.WideShapes Go.ChangeAt Go.RowKit
set_option linter.unusedVariables false

/-- what the values from the k-th on write. -/
def tails (l : List Vl) (k : Nat) : List Int := ((l.drop k).map form).flatten
theorem tails_zero (l : List Vl) : tails l 0 = forms l l.length := by simp [tails, forms]
theorem tails_at (l : List Vl) (k : Nat) (hk : k < l.length) : tails l k = form l[k] ++ tails l (k + 1) := by
  unfold tails
  rw [List.drop_eq_getElem_cons hk, List.map_cons, List.flatten_cons]
theorem tails_end (l : List Vl) : tails l l.length = [] := by simp [tails]
theorem tails_le (l : List Vl) (k : Nat) : (tails l k).length ≤ (forms l l.length).length := by
  have e : forms l l.length = forms l k ++ tails l k := by
    unfold forms tails
    rw [List.take_length, ← List.flatten_append, ← List.map_append, List.take_append_drop]
  rw [e]; simp
theorem form_none {x : Vl} (h : 5 < x.k) : form x = [] := by
  obtain ⟨k, u, i, b, l, s, n⟩ := x
  simp only at h
  obtain ⟨j, rfl⟩ : ∃ j, k = j + 6 := ⟨k - 6, by omega⟩
  rfl
/-- what the switch leaves: a box with what is to be told. -/
def Wanted (B : Nat) (w3 wx : World) (L : List Ob) (x : Vl) (s11 : Value) : Prop :=
  ∃ pv va vc, s11 = .pointer (some ⟨pv, 0, none⟩) ∧ Many B w3 wx (L ++ [.bx pv (cellsV (wantV x) (.slice va (wantV x).l.length vc)) 29]) ∧ IsB w3 (.slice va (wantV x).l.length vc) (wantV x).l
theorem isB_nil (w : World) : IsB w (.slice none 0 0) [] := (own_nil 0 w).isB
set_option maxRecDepth 100000 in
set_option maxHeartbeats 8000000 in
theorem walk (v0 : Value) (l : List Vl) (more : Int) (w : World) (h0 : IsVs w v0 l) (hm : (Lit.int .u8 more).wf = true) :
    Calls Try.prog 6 #[v0, .int .u8 more] w fun e w' => e = .returned (.bool true) ∧ Below w.heap.size w w' := by
  obtain ⟨a0, c0, rfl⟩ := h0.slice
  have hmo := hid (wf_u8 hm)
  clear hm
  replace h0 := hid h0
  go_enter Try.func6, Try.ntmps6
  go_wp2_with fail
  refine (awake_any w).mono ?_
  rintro e w1 ⟨rfl, b1⟩
  have B1 := hid b1
  clear b1
  go_wp2_with fail
  refine (great_any _ l w1 (h0.out.below B1.out)).mono ?_
  rintro e w2 ⟨r1, rfl, hf1, q1, rfl⟩
  have B3 := hid (below_drewN (n := q1) B1.out)
  clear B1
  generalize w1.drewN q1 = w3 at *
  cases r1 with
  | true =>
    clear hf1
    go_wp2
    go_ret
    exact ⟨rfl, B3.out⟩
  | false =>
    replace hf1 := hid (hf1 rfl)
    have hl3 : l.length ≤ 300 := hf1.out.1
    replace h0 := hid (h0.out.below B3.out)
    go_wp2_with fail
    refine (m_new (Many.nil w3)).mono ?_
    rintro e w4 ⟨pw, rfl, m4⟩
    have m7 : Many w3.heap.size w3 w4 [.wr pw []] := m4
    replace m7 := hid m7
    clear m4
    go_wp2
    go_loopw [6] (fun iv wr => ∃ k : Nat, k ≤ l.length ∧ iv = .int .i64 (k : Int) ∧ (forms l k).length ≤ 20010 * k ∧ Many w3.heap.size w3 wr [.wr pw (forms l k)]) (fun iv _ => l.length - (intOf iv).toNat)
    case atStart => exact ⟨0, by omega, rfl, by simp [forms], m7.out⟩
    case round =>
      clear m7
      obtain ⟨k, hk, rfl, hfl, mk⟩ := hrel
      by_cases hlt : k < l.length
      · have hlt' : (k : Int) < (l.length : Int) := by omega
        obtain ⟨b, off, va, vc, rfl, hok, hsl, hB0, hq⟩ := h0.out.get k hlt
        have hs := form_short hf1.out hlt hok
        have hat := hf1.out.at k hlt
        have hfs := hid (forms_succ l k hlt)
        obtain ⟨q0, q1, q2, q3, q4, q5, q6⟩ := hq wr mk.low
        have w1c := hid (m_write mk 0 rfl l[k] _ hok rfl hB0 (by omega) (by omega) (by omega))
        unfold agg str at w1c
        clear hok hB0 hsl hq mk
        generalize l[k] = x at *
        go_wp2_with fail
        refine w1c.out.mono ?_
        rintro e w9 ⟨rfl, m9⟩
        have m9' : Many w3.heap.size w3 w9 [.wr pw (forms l (k + 1))] := by rw [hfs.out]; exact m9
        have hlen : (forms l (k + 1)).length ≤ 20010 * (k + 1) := by rw [hfs.out]; simp; omega
        replace m9' := hid m9'
        clear q0 q1 q2 q3 q4 q5 q6 w1c m9 hfs
        go_wp2
        go_roundw
        case rel => exact ⟨k + 1, by omega, by go_num, hlen, m9'.out⟩
        case measure => simp [intOf]; omega
      · have hlt' : ¬ (k : Int) < (l.length : Int) := by omega
        obtain rfl : k = l.length := by omega
        clear hlt hk
        have htl := hid (tails_le l)
        have ht0 := hid (tails_zero l)
        generalize forms l l.length = A at *
        have hAl : A.length ≤ 6003000 := by omega
        clear hfl
        replace mk := hid mk
        go_wp2_with fail
        refine (m_out mk.out 0 rfl (by omega)).mono ?_
        rintro e w5 ⟨a5, c5, rfl, o5, -, b5⟩
        have m5 : Many w3.heap.size w3 w5 [.wr pw A, .by_ (.slice a5 A.length c5) A] := m_own mk.out b5 o5
        obtain ⟨a6, c6, w6, hrun, m6⟩ := m_app (m5.later (alloc_below w5 (.cells #[.int .u8 more] 5))) 1 rfl (isB_one w5 more hmo.out) (by simp; omega)
        have m6' : Many w3.heap.size w3 w6 [.wr pw A, .by_ (.slice a6 (A.length + 1) c6) (A ++ [more])] := m6
        have o6 := m_by m6' 1 rfl
        obtain ⟨g6, rfl, h61, h62, i6, i6'⟩ : ∃ g, a6 = some ⟨g, 0, none⟩ ∧ A.length + 1 ≤ c6 ∧ c6 ≤ 9223372036854775807 ∧ IsB w6 (.slice (some ⟨g, 0, none⟩) A.length c6) A ∧ IsB w6 (.slice (some ⟨g, 0, none⟩) (A.length + 1) c6) (A ++ [more]) := by
          have hI := o6.isB
          rcases o6.form with ⟨e, _⟩ | ⟨g, c', cur, e, h1, h2, _, _, _, _⟩
          · simp at e
          · rw [List.length_append] at e h1
            cases e
            unfold maxLen at h2
            refine ⟨g, rfl, h1, h2, ?_, hI⟩
            have hp := hI.part 0 A.length (by omega) (by omega) A.length c6 (by omega) (by omega) (by unfold maxLen; omega)
            simpa using hp
        replace m6' := hid m6'
        replace i6 := hid i6
        replace i6' := hid i6'
        clear mk o5 b5 m5 m6 o6
        have hrun1 : ∀ ty, (Builtin.append_ #[26, 26] ty #[.slice a5 A.length c5, .slice (some ⟨w5.heap.size, 0, none⟩) 1 1]).run Try.prog (w5.alloc (.cells #[.int .u8 more] 5)) = .ok (.slice (some ⟨g6, 0, none⟩) (A.length + 1) c6) w6 := hrun
        clear hrun
        go_wp2_with (at_builtin; refine wpList_append_run _ rfl _ _ 26 rfl _ _ _ _ rfl rfl hrun1 ?_)
        refine (m_over m6'.out _ i6.out (by omega)).mono ?_
        rintro e w7 ⟨pr, rfl, m7⟩
        have m7' : Many w3.heap.size w3 w7 [.wr pw A, .by_ (.slice (some ⟨g6, 0, none⟩) (A.length + 1) c6) (A ++ [more]), .rd pr (some A)] := m7
        have i7 := hid (m_by m7' 1 rfl).isB
        replace m7' := hid m7'
        clear m7 m6' i6 i6' hrun1
        go_wp2_with fail
        refine (m_over m7'.out _ i7.out (by simp; omega)).mono ?_
        rintro e w8 ⟨ps, rfl, m8⟩
        have m8' : Many w3.heap.size w3 w8 [.wr pw A, .by_ (.slice (some ⟨g6, 0, none⟩) (A.length + 1) c6) (A ++ [more]), .rd pr (some A), .rd ps (some (A ++ [more]))] := m8
        generalize Ob.wr pw A = o1 at m8'
        generalize Ob.by_ (.slice (some ⟨g6, 0, none⟩) (A.length + 1) c6) (A ++ [more]) = o2 at m8'
        rw [← ht0.out] at m8'
        replace m8' := hid m8'
        clear m8 m7' i7
        go_wp2
        go_loopw [10] (fun iv wr => ∃ k : Nat, k ≤ l.length ∧ iv = .int .i64 (k : Int) ∧ Many w3.heap.size w3 wr [o1, o2, .rd pr (some (tails l k)), .rd ps (some (tails l k ++ [more]))]) (fun iv _ => l.length - (intOf iv).toNat)
        case atStart => exact ⟨0, by omega, rfl, m8'.out⟩
        case round =>
          clear m8'
          obtain ⟨k, hk, rfl, mk⟩ := hrel
          by_cases hlt : k < l.length
          · have hlt'' : (k : Int) < (l.length : Int) := by omega
            obtain ⟨b, off, va, vc, rfl, hok, hsl, hB0, hq⟩ := h0.out.get k hlt
            have hat := hf1.out.at k hlt
            have hta := tails_at l k hlt
            have htl1 := htl.out k
            have htl2 := htl.out (k + 1)
            obtain ⟨q0, q1, q2, q3, q4, q5, q6⟩ := hq wr mk.low
            have hq' := hid hq
            have hok1 := hok.k
            generalize l[k] = x at *
            by_cases h5 : 5 < x.k
            · have h5' : (5 : Int) < (x.k : Int) := by omega
              rw [form_none h5, List.nil_append] at hta
              rw [hta] at mk
              replace mk := hid mk
              clear hta
              go_wp2
              go_roundw
              case rel => exact ⟨k + 1, by omega, by go_num, mk.out⟩
              case measure => simp [intOf]; omega
            · have h5' : ¬ (5 : Int) < (x.k : Int) := by omega
              rw [hta] at mk htl1
              generalize hT : tails l (k + 1) = T at *
              replace hT := hid hT
              have mk' := hid mk
              have hbx := hid (fun cs => m_boxNew mk cs 29)
              have hB0' := hid hB0
              have hokk := hid hok
              obtain ⟨hn0, hn1⟩ := hok.n
              clear hq hB0 hok hta mk
              have hbl := World.block_lt_of_cell? wr _ q0
              simp only at hbl
              go_upto_block 4 with fail
              go_cut [11] from 43 to 148 (fun s11 wx => Wanted w3.heap.size w3 wx [o1, o2, .rd pr (some (form x ++ T)), .rd ps (some (form x ++ T ++ [more]))] x s11)
              case first =>
                unfold cellsV at *
                obtain ⟨xk, xu, xi, xb, xl, xs, xn⟩ := x
                simp only at *
                obtain rfl | rfl | rfl | rfl | rfl | rfl : xk = 0 ∨ xk = 1 ∨ xk = 2 ∨ xk = 3 ∨ xk = 4 ∨ xk = 5 := by omega
                · go_wp2
                  go_meet
                  case rel => exact ⟨_, none, 0, rfl, hbx.out _, isB_nil _⟩
                · go_wp2
                  go_meet
                  case rel => exact ⟨_, none, 0, rfl, hbx.out _, isB_nil _⟩
                · go_wp2
                  go_meet
                  case rel => exact ⟨_, none, 0, rfl, hbx.out _, isB_nil _⟩
                · go_wp2
                  go_meet
                  case rel => exact ⟨_, va, vc, rfl, hbx.out _, hB0'.out⟩
                · go_wp2
                  go_meet
                  case rel => exact ⟨_, none, 0, rfl, hbx.out _, isB_nil _⟩
                · by_cases hneg : xn < 0
                  · have e0 : Hid (max xn 0 = 0) := by show _ = _; omega
                    go_wp2
                    go_meet
                    case rel =>
                      refine ⟨_, none, 0, rfl, ?_, isB_nil _⟩
                      simp only [cellsV, wantV, zeroV, e0.out]
                      exact hbx.out _
                  · have e0 : Hid (max xn 0 = xn) := by show _ = _; omega
                    go_wp2
                    go_meet
                    case rel =>
                      refine ⟨_, none, 0, rfl, ?_, isB_nil _⟩
                      simp only [cellsV, wantV, zeroV, e0.out]
                      exact hbx.out _
              case rest =>
                obtain ⟨pv, va', vc', rfl, mc, hIw⟩ := hcut
                have hrb1 := read_back (v := x) hokk.out (by omega) (by omega) T
                have hrb2 := read_back (v := x) hokk.out (by omega) (by omega) (T ++ [more])
                clear hbx hB0' hokk mk' q0 q1 q2 q3 q4 q5 q6
                have hTl : (form x ++ T).length ≤ 6003000 := by omega
                generalize wantV x = Y at *
                have hcf := hid (fun W (hb : Below w3.heap.size w3 W) (hc : W.heap[pv]? = some (.cells (cellsV Y (.slice va' Y.l.length vc')) 29)) => (show W.cell? ⟨b, off + k * 7, none⟩ = some (.int .u8 (x.k : Int)) ∧ W.cell? ⟨b, off + k * 7 + 6, none⟩ = some (.int .i64 x.n) ∧ W.cell? ⟨pv, 0, none⟩ = some (.int .u8 (Y.k : Int)) ∧ W.cell? ⟨pv, 1, none⟩ = some (.int .u64 (Y.u : Int)) ∧ W.cell? ⟨pv, 2, none⟩ = some (.int .i64 Y.i) ∧ W.cell? ⟨pv, 3, none⟩ = some (.bool Y.b) ∧ W.cell? ⟨pv, 4, none⟩ = some (.slice va' Y.l.length vc') ∧ W.cell? ⟨pv, 5, none⟩ = some (.string ⟨Y.s.toArray⟩) ∧ W.cell? ⟨pv, 6, none⟩ = some (.int .i64 Y.n) by
                  obtain ⟨p0, _, _, _, _, _, p6⟩ := hq'.out W hb
                  refine ⟨p0, p6, ?_⟩
                  simp only [cell_of hc]
                  exact ⟨rfl, rfl, rfl, rfl, rfl, rfl, rfl⟩))
                have mc' : Many w3.heap.size w3 wc [o1, o2, .rd pr (some (form x ++ T)), .rd ps (some (form x ++ T ++ [more])), .bx pv (cellsV Y (.slice va' Y.l.length vc')) 29] := mc
                obtain ⟨f0, f1, f2, f3, f4, f5, f6, f7, f8⟩ := hcf.out wc mc'.low (m_box mc' 4 rfl)
                have hs1 := hid (fun W a c (m : Many w3.heap.size w3 W [o1, o2, .rd pr (some T), .rd ps (some (form x ++ T ++ [more])), .bx pv (cellsV Y (.slice va' Y.l.length vc')) 29, .by_ (.slice a Y.l.length c) Y.l]) => sameV_yes Y a va' c vc' W (m_by m 5 rfl).isB (hIw.below m.low))
                have hs2 := hid (fun W a c a2 c2 (m : Many w3.heap.size w3 W [o1, o2, .rd pr (some T), .rd ps (some (T ++ [more])), .bx pv (cellsV Y (.slice va' Y.l.length vc')) 29, .by_ (.slice a Y.l.length c) Y.l, .by_ (.slice a2 Y.l.length c2) Y.l]) => sameV_yes Y a2 va' c2 vc' W (m_by m 6 rfl).isB (hIw.below m.low))
                unfold agg str at hs1 hs2
                rw [← List.append_assoc] at hrb2
                have hx5 : x.k ≤ 5 := by omega
                rw [show max x.n 0 = if x.n < 0 then 0 else x.n by split <;> omega] at hrb1 hrb2
                have hmb : (if x.n < 0 then 0 else x.n) ≤ 9223372036854775807 := by split <;> omega
                obtain ⟨mx, hmx⟩ : ∃ mx : Int, (if x.n < 0 then 0 else x.n) = mx := ⟨_, rfl⟩
                rw [hmx] at hrb1 hrb2 hmb
                have hr1 := hid (fun n => m_read (mc'.heap n) 2 rfl x.k mx hx5 hmb (rpiece_short _ (by show (form x ++ T).length ≤ _; omega)))
                have hr2 := hid (fun W a c (m : Many w3.heap.size w3 W [o1, o2, .rd pr (some T), .rd ps (some (form x ++ T ++ [more])), .bx pv (cellsV Y (.slice va' Y.l.length vc')) 29, .by_ (.slice a Y.l.length c) Y.l]) => m_read m 3 rfl x.k mx hx5 hmb (rpiece_short _ (by show (form x ++ T ++ [more]).length ≤ _; rw [List.length_append]; simp only [List.length_singleton]; omega)))
                unfold MRead at hr1 hr2
                rw [hrb1] at hr1
                rw [hrb2] at hr2
                replace mc' := hid mc'
                clear mc hrb1 hrb2 hIw hTl hx5 hmb
                go_wp2
                go_region_held3 (fun w' => w'.cell? ⟨b, off + k * 7, none⟩ = some (.int .u8 (x.k : Int)) ∧ w'.cell? ⟨b, off + k * 7 + 6, none⟩ = some (.int .i64 x.n) ∧ w'.cell? ⟨pv, 0, none⟩ = some (.int .u8 (Y.k : Int)) ∧ w'.cell? ⟨pv, 1, none⟩ = some (.int .u64 (Y.u : Int)) ∧ w'.cell? ⟨pv, 2, none⟩ = some (.int .i64 Y.i) ∧ w'.cell? ⟨pv, 3, none⟩ = some (.bool Y.b) ∧ w'.cell? ⟨pv, 4, none⟩ = some (.slice va' Y.l.length vc') ∧ w'.cell? ⟨pv, 5, none⟩ = some (.string ⟨Y.s.toArray⟩) ∧ w'.cell? ⟨pv, 6, none⟩ = some (.int .i64 Y.n)) (go_keep) (first | (go_at_call 17; refine (hr1.out _).mono ?_; rintro e w4 ⟨a, c, he, m4⟩; clear hr1; unfold agg str at he; subst he; obtain ⟨g0, g1, g2, g3, g4, g5, g6, g7, g8⟩ := hcf.out _ m4.low (m_box m4 4 rfl); replace m4 := hid m4) | (go_at_call 18; refine (hs1.out _ _ _ m4.out).mono ?_; rintro e w5 ⟨rfl, b5⟩; clear hs1; have m5 := m4.out.later b5; clear m4 b5; obtain ⟨i0, i1, i2, i3, i4, i5, i6, i7, i8⟩ := hcf.out _ m5.low (m_box m5 4 rfl); replace m5 := hid m5) | (go_at_call 17; refine (hr2.out _ _ _ m5.out).mono ?_; rintro e w6 ⟨a2, c2, he, m6⟩; clear hr2 m5; unfold agg str at he; subst he; obtain ⟨j0, j1, j2, j3, j4, j5, j6, j7, j8⟩ := hcf.out _ m6.low (m_box m6 4 rfl); replace m6 := hid m6) | (go_at_call 18; refine (hs2.out _ _ _ _ _ m6.out).mono ?_; rintro e w7 ⟨rfl, b7⟩; clear hs2; have m7 := m6.out.later b7; clear m6 b7; obtain ⟨l0, l1, l2, l3, l4, l5, l6, l7, l8⟩ := hcf.out _ m7.low (m_box m7 4 rfl); replace m7 := hid m7))
                all_goals
                  go_wp2
                  go_roundw
                  case rel => exact ⟨k + 1, by omega, by go_num, by rw [hT.out]; exact Many.first (l := [o1, o2, .rd pr (some T), .rd ps (some (T ++ [more]))]) (show Many w3.heap.size w3 _ ([o1, o2, .rd pr (some T), .rd ps (some (T ++ [more]))] ++ [_, _, _]) from m7.out)⟩
                  case measure => simp [intOf]; omega
          · have hlt'' : ¬ (k : Int) < (l.length : Int) := by omega
            obtain rfl : k = l.length := by omega
            rw [tails_end, List.nil_append] at mk
            have d1 := hid (m_done mk 2 rfl)
            have d2 := hid (m_err mk 3 rfl)
            have d3 := hid (m_done mk 3 rfl)
            simp only [doneP, errP] at d1 d2 d3
            replace mk := hid mk
            go_wp2_with fail
            refine d1.out.mono ?_
            rintro e w9 ⟨rfl, rfl⟩
            go_wp2_with (first | (go_at_call 20; refine d2.out.mono ?_; rintro e w9 ⟨rfl, rfl⟩) | (go_at_call 22; refine d3.out.mono ?_; rintro e w9 ⟨rfl, rfl⟩))
            go_ret
            exact ⟨rfl, B3.out.trans (mk.out.low.mono B3.out.size)⟩

theorem own : ownKnob Try.prog.godebug = none := by kernel_rfl
theorem laidOut : laidOutB Try.prog = true := by kernel_rfl

set_option maxRecDepth 100000 in
theorem lifted (os : Os) (started : os.Started) (H : Type) (enc : TypeId × Value → H) :
    ReturnsInHanded {} Try.checked os 6 .any (Rows.codecBackSpec.pre6 enc Try.prog Try.f6 Rows.codecBackRow.domain false) (Rows.codecBackSpec.post enc Try.prog Try.f6 false true false false) := by
  refine returnsInHanded_of_change (C := Try.checked) own started (by kernel_rfl) Try.func6
    (ChangeSpec.witness6 (enc := enc) (C := Try.checked) false ⟨#[], #[.slice none 0 0, .int .u8 0], []⟩ 8 (by kernel_rfl) (by kernel_rfl) (by kernel_rfl) (by kernel_rfl)) ?_
  intro W base args ds gs before hval0 hW hcnd _
  have hval : ∀ (j : Nat) t v, Try.f6.params[j]? = some t → args[j]? = some v → Value.okWide Try.prog W .any base t v := hval0
  have hW' := hW
  obtain ⟨p, q, hA0, hV, rfl, hfz, hnd⟩ := hW
  have hA : DataW.TrodAll enc Try.prog W 0 (fun _ => true) true Try.f6.params.toList args.toList ds p := hA0
  rw [Try.params6] at hA hval
  obtain ⟨v0, vs0, d0, ds0, p0, q0, hargs, rfl, rfl, h0, r0⟩ := trodAll_cons hA
  obtain ⟨v1, vs1, d1, ds1, p1, q1, rfl, rfl, rfl, h1, r1⟩ := trodAll_cons r0
  obtain ⟨rfl, rfl, rfl⟩ := trodAll_nil r1
  obtain rfl : args = #[v0, v1] := by cases args; simp_all
  obtain ⟨rfl, rfl⟩ := trodVars_none hV
  have k0 := h0
  have lt0 : ∀ x ∈ p0, x.block < W.heap.size := by obtain ⟨m, hm⟩ := k0; exact DataW.trod_lt m _ _ _ hm
  obtain ⟨l0, w0⟩ := open_vals (hval 0 22 v0 rfl rfl) h0
  obtain ⟨a1, rfl, rfl, rfl, w1⟩ := open_int Try.underlying5 (hval 1 5 v1 rfl rfl) h1
  clear hA0 hval0
  refine (walk v0 l0 a1 W w0 w1).mono fun e W' ⟨he, bel⟩ => ?_
  subst he
  exact ⟨_, rfl, _, _, _, [], _, [], hW', trodAll_mk1 (shut_bool Try.underlying4 _), (trodAll_cons_mk (Below.trod laidOut (by kernel_rfl) (of_decide_eq_true (by kernel_rfl)) k0 bel lt0) (trodAll_cons_mk (shut_int Try.underlying5 w1) trodAll_mk0)), rfl, bel.frame _, fun h => by cases h⟩

theorem over : Rows.codecBackRow.holds Try.pinned (OpenSpec.ofChange Rows.codecBackSpec) :=
  OpenClaim.holds_of_wide 6 Try.f6 rfl rfl rfl rfl rfl rfl rfl ⟨rfl, rfl, rfl, rfl, rfl⟩ rfl rfl rfl rfl rfl (by kernel_rfl) Try.func6 (by kernel_rfl)
    (of_decide_eq_true (by kernel_rfl)) (by unfold Func.isWrapper; first | (rw [if_pos (by decide +kernel)]; kernel_rfl) | (rw [if_neg (by decide +kernel)]; exact ⟨rfl, rfl⟩))
    (fun os started H enc _ => lifted os started H enc)

theorem proved : Rows.CodecBackSaid := over
#print axioms proved

end Go.Proofs.Ythhfahnlcoiblaa.codecBack
