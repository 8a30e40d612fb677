/- For any two texts the law LexTwo of the program returns true: of two texts that have tokens, one behind the other with a line's end between, the tokens are those of both, one behind the other. No condition. -/
import Derived.Test.YtlggdeadkebgiaaG9
namespace Go.Proofs.Ytlggdeadkebgiaa.lexTwo
open Go.ChangeShapes Go.WideShapes Go.ChangeAt Go.RowKit
open Go.ChangeMaps (open_string shut_string)
set_option linter.unusedVariables false

set_option maxRecDepth 100000 in
set_option maxHeartbeats 4000000 in
theorem walk1 (s t : Tx) (w : World) (hs : s.length ≤ maxLen) (ht : t.length ≤ maxLen) :
    Calls Try.prog 7 #[str s, str t] w fun e w' => e = .returned (.bool true) ∧ Below w.heap.size w w' := by
  unfold maxLen at hs ht
  unfold str
  go_enter Try.func7, Try.ntmps7
  go_wp2_with fail
  refine (awake_any w).mono ?_
  rintro e w0 ⟨rfl, b0⟩
  have B0 := hid b0
  clear b0
  by_cases h1 : 2000 < s.length
  · have h1' : (2000 : Int) < (s.length : Int) := by omega
    go_wp2
    go_ret
    exact ⟨rfl, B0.out⟩
  have h1' : decide ((2000 : Int) < (s.length : Int)) = false := by simp; omega
  have h1'' : decide (2000 < s.length) = false := by simp; omega
  by_cases h2 : 2000 < t.length
  · have h2' : (2000 : Int) < (t.length : Int) := by omega
    go_wp2
    go_ret
    exact ⟨rfl, B0.out⟩
  have h2' : decide ((2000 : Int) < (t.length : Int)) = false := by simp; omega
  have h2'' : decide (2000 < t.length) = false := by simp; omega
  have k1 : (9223372036854775807 < s.length + 1) = False := eq_false (by omega)
  have k2 : (9223372036854775807 < s.length + 1 + t.length) = False := eq_false (by omega)
  have hcat := cat_line s t
  have hl : (s ++ 10 :: t).length ≤ 4096 := by simp; omega
  obtain ⟨la, ba, hsa⟩ := scan_ex s.length s 0 (Nat.le_refl _)
  obtain ⟨lb, bb, hsb⟩ := scan_ex t.length t 0 (Nat.le_refl _)
  cases ba with
  | some p =>
    have ha := hid (fun w => all_bad s w hsa (by omega))
    unfold str at ha
    cases bb with
    | some q =>
      have hb := hid (fun w => all_bad t w hsb (by omega))
      unfold str at hb
      clear hsa hsb hl
      go_wp2_with fail
      refine (ha.out _).mono ?_
      rintro e w1 ⟨rfl, b1⟩
      have B1 := hid (low' B0.out b1)
      go_wp2_with fail
      refine (hb.out _).mono ?_
      rintro e w2 ⟨rfl, b2⟩
      have B2 := hid (low' B1.out b2)
      go_wp2
      go_ret
      exact ⟨rfl, B2.out⟩
    | none =>
      have hb := hid (fun w => all_ok t w hsb (by omega))
      unfold str at hb
      clear hsa hsb hl
      go_wp2_with fail
      refine (ha.out _).mono ?_
      rintro e w1 ⟨rfl, b1⟩
      have B1 := hid (low' B0.out b1)
      go_wp2_with fail
      refine (hb.out _).mono ?_
      rintro e w2 ⟨a2, c2, rfl, _, b2⟩
      have B2 := hid (low' B1.out b2)
      go_wp2
      go_ret
      exact ⟨rfl, B2.out⟩
  | none =>
    have ha := hid (fun w => all_ok s w hsa (by omega))
    unfold str at ha
    cases bb with
    | some q =>
      have hb := hid (fun w => all_bad t w hsb (by omega))
      unfold str at hb
      clear hsa hsb hl
      go_wp2_with fail
      refine (ha.out _).mono ?_
      rintro e w1 ⟨a1, c1, rfl, _, b1⟩
      have B1 := hid (low' B0.out b1)
      go_wp2_with fail
      refine (hb.out _).mono ?_
      rintro e w2 ⟨rfl, b2⟩
      have B2 := hid (low' B1.out b2)
      go_wp2
      go_ret
      exact ⟨rfl, B2.out⟩
    | none =>
      have hb := hid (fun w => all_ok t w hsb (by omega))
      unfold str at hb
      have hsc : Scan 0 (s ++ 10 :: t) (la ++ lb.map (Tk.shift (s.length + 1))) none := scan_two hsa (by
        have := scan_shift hsb (s.length + 1)
        rw [← Nat.add_assoc] at this
        exact this)
      have hc := hid (fun w => all_ok _ w hsc hl)
      unfold str at hc
      have hla := (scan_mem hsa).1
      have hlb := (scan_mem hsb).1
      have hma := hid (scan_mem hsa).2.1
      have hmb := hid (scan_mem hsb).2.1
      clear hsa hsb hl hsc
      generalize hS : s ++ 10 :: t = S at *
      clear hS
      obtain ⟨m, hm⟩ : ∃ m, m = la ++ lb.map (Tk.shift (s.length + 1)) := ⟨_, rfl⟩
      rw [← hm] at hc
      have hml : m.length = la.length + lb.length := by rw [hm]; simp
      have HM := hid hm
      clear hm
      go_wp2_with fail
      refine (ha.out _).mono ?_
      rintro e w1 ⟨a1, c1, rfl, o1, b1⟩
      have B1 := hid (low' B0.out b1)
      have O1 := hid (o1.base (B' := 0) (by omega))
      clear o1 b1 B0 ha
      go_wp2_with fail
      refine (hb.out _).mono ?_
      rintro e w2 ⟨a2, c2, rfl, o2, b2⟩
      have B2 := hid (low' B1.out b2)
      have O2 := hid (o2.base (B' := 0) (by omega))
      have O1' := hid (O1.out.below b2)
      clear o2 b2 B1 hb O1
      go_wp2_with fail
      refine (hc.out _).mono ?_
      rintro e w3 ⟨a3, c3, rfl, o3, b3⟩
      have B3 := hid (low' B2.out b3)
      have O3 := hid (o3.base (B' := 0) (by omega))
      have O2' := hid (O2.out.below b3)
      have O1 := hid (O1'.out.below b3)
      clear o3 b3 B2 hc O1' O2
      have cw : IntKind.i64.wrap ((la.length : Int) + (lb.length : Int)) = (m.length : Int) := by rw [IntKind.wrap_i64]; omega
      generalize hp : la.length = p at *
      generalize hq : lb.length = q at *
      generalize hn : m.length = n at *
      have hn4 : n ≤ 4000 := by omega
      replace hp := hid hp
      replace hq := hid hq
      replace hn := hid hn
      replace hml := hid hml
      go_wp2
      go_loopw [14] (fun iv wr => ∃ i : Nat, i ≤ n ∧ iv = .int .i64 (i : Int) ∧ Hid (Below w3.heap.size w3 wr)) (fun iv _ => n - (intOf iv).toNat)
      case atStart => exact ⟨0, by omega, rfl, Below.refl _ _⟩
      case round =>
        obtain ⟨i, hi, rfl, hB⟩ := hrel
        obtain ⟨V, rfl⟩ : ∃ V : World, V = wr := ⟨_, rfl⟩
        by_cases hlt : i < n
        · have hlt' : (i : Int) < (n : Int) := by omega
          obtain ⟨y, hy⟩ : ∃ y, m[i]? = some y := ⟨_, List.getElem?_eq_getElem (by rw [hn.out]; exact hlt)⟩
          obtain ⟨g3, rfl, hg3, k3⟩ := (O3.out.below hB.out).cells (fun e => by subst e; simp at hy)
          obtain ⟨q1, q2, q3⟩ := k3 i y hy
          clear k3
          have hB' := hid (fun C => low' hB.out (alloc_below V (.cells C 31)))
          by_cases hip : i < p
          · have hip' : (i : Int) < (p : Int) := by omega
            have hy2 : la[i]? = some y := by
              rw [HM.out, List.getElem?_append_left (by rw [hp.out]; exact hip)] at hy
              exact hy
            obtain ⟨g1, rfl, hg1, k1'⟩ := (O1.out.below hB.out).cells (fun e => by subst e; simp at hy2)
            obtain ⟨r1, r2, r3⟩ := k1' i y hy2
            clear k1' hy hy2 O1 O2' O3 hma hmb
            go_wp2
            obtain ⟨V1, hV1⟩ : ∃ V1, V.alloc (.cells #[.int .u8 (y.kind : Int), .string ⟨y.text.toArray⟩, .int .i64 (y.at_ : Int)] 31) = V1 := ⟨_, rfl⟩
            have hnb := new_block V (.cells #[.int .u8 (y.kind : Int), .string ⟨y.text.toArray⟩, .int .i64 (y.at_ : Int)] 31)
            have hbl := alloc_below V (.cells #[.int .u8 (y.kind : Int), .string ⟨y.text.toArray⟩, .int .i64 (y.at_ : Int)] 31)
            have hb5 := hB'.out #[.int .u8 (y.kind : Int), .string ⟨y.text.toArray⟩, .int .i64 (y.at_ : Int)]
            rw [hV1] at hnb hbl hb5
            rw [hV1]
            clear hV1
            have x1 := cell_of hnb 0
            have x2 := cell_of hnb 1
            have x3 := cell_of hnb 2
            simp at x1 x2 x3
            rw [← hbl.cell (p := ⟨g3, i * 3, none⟩) hg3] at q1
            rw [← hbl.cell (p := ⟨g3, i * 3 + 1, none⟩) hg3] at q2
            rw [← hbl.cell (p := ⟨g3, i * 3 + 2, none⟩) hg3] at q3
            replace hb5 := hid hb5
            clear hnb hbl r1 r2 r3
            go_quiet (fail)
            go_wp2
            exact ⟨⟨i + 1, by omega, by go_num, below_drewN hb5.out⟩, by simp [intOf]; omega⟩
          · have hip' : ¬ (i : Int) < (p : Int) := by omega
            obtain ⟨z, hz, rfl⟩ : ∃ z, lb[i - p]? = some z ∧ y = Tk.shift (s.length + 1) z := by
              rw [HM.out, List.getElem?_append_right (by rw [hp.out]; omega), hp.out, List.getElem?_map] at hy
              cases hz : lb[i - p]? with
              | none => rw [hz] at hy; cases hy
              | some z => rw [hz] at hy; cases hy; exact ⟨z, rfl, rfl⟩
            have hza := (hmb.out z (List.mem_of_getElem? hz)).2.2.1
            obtain ⟨j, hj⟩ : ∃ j, j = i - p := ⟨_, rfl⟩
            rw [← hj] at hz
            have c6 : IntKind.i64.wrap ((i : Int) - (p : Int)) = (j : Int) := by rw [IntKind.wrap_i64]; omega
            have hji : (j : Int) < (q : Int) := by have := hml.out; omega
            replace hj := hid hj
            have c7 : IntKind.i64.wrap ((z.at_ : Int) + (s.length : Int)) = (z.at_ : Int) + (s.length : Int) := by rw [IntKind.wrap_i64]; omega
            have c8 : IntKind.i64.wrap ((z.at_ : Int) + (s.length : Int) + 1) = (z.at_ : Int) + (s.length : Int) + 1 := by rw [IntKind.wrap_i64]; omega
            have q3' : V.cell? ⟨g3, i * 3 + 2, none⟩ = some (.int .i64 ((z.at_ : Int) + (s.length : Int) + 1)) := by
              rw [q3]
              have : (((Tk.shift (s.length + 1) z).at_ : Nat) : Int) = (z.at_ : Int) + (s.length : Int) + 1 := by show (((z.at_ + (s.length + 1) : Nat)) : Int) = _; omega
              rw [this]
            have q1' : V.cell? ⟨g3, i * 3, none⟩ = some (.int .u8 (z.kind : Int)) := q1
            have q2' : V.cell? ⟨g3, i * 3 + 1, none⟩ = some (.string ⟨z.text.toArray⟩) := q2
            obtain ⟨g2, rfl, hg2, k2'⟩ := (O2'.out.below hB.out).cells (fun e => by subst e; simp at hz)
            obtain ⟨r1, r2, r3⟩ := k2' j z hz
            clear k2' hy hz O1 O2' O3 hma hmb q1 q2 q3
            go_wp2
            obtain ⟨V1, hV1⟩ : ∃ V1, V.alloc (.cells #[.int .u8 (z.kind : Int), .string ⟨z.text.toArray⟩, .int .i64 ((z.at_ : Int) + (s.length : Int) + 1)] 31) = V1 := ⟨_, rfl⟩
            have hnb := new_block V (.cells #[.int .u8 (z.kind : Int), .string ⟨z.text.toArray⟩, .int .i64 ((z.at_ : Int) + (s.length : Int) + 1)] 31)
            have hbl := alloc_below V (.cells #[.int .u8 (z.kind : Int), .string ⟨z.text.toArray⟩, .int .i64 ((z.at_ : Int) + (s.length : Int) + 1)] 31)
            have hb5 := hB'.out #[.int .u8 (z.kind : Int), .string ⟨z.text.toArray⟩, .int .i64 ((z.at_ : Int) + (s.length : Int) + 1)]
            rw [hV1] at hnb hbl hb5
            rw [hV1]
            clear hV1
            have x1 := cell_of hnb 0
            have x2 := cell_of hnb 1
            have x3 := cell_of hnb 2
            simp at x1 x2 x3
            rw [← hbl.cell (p := ⟨g3, i * 3, none⟩) hg3] at q1'
            rw [← hbl.cell (p := ⟨g3, i * 3 + 1, none⟩) hg3] at q2'
            rw [← hbl.cell (p := ⟨g3, i * 3 + 2, none⟩) hg3] at q3'
            replace hb5 := hid hb5
            clear hnb hbl r1 r2 r3
            go_quiet (fail)
            go_wp2
            exact ⟨⟨i + 1, by omega, by go_num, below_drewN hb5.out⟩, by simp [intOf]; omega⟩
        · have hlt' : ¬ (i : Int) < (n : Int) := by omega
          obtain rfl : i = n := by omega
          have B4 := hid (B3.out.trans (hB.out.mono B3.out.size))
          go_wp2
          go_ret
          exact ⟨rfl, B4.out⟩
theorem walk (s t : ByteArray) (w : World) (hs : s.size ≤ maxLen) (ht : t.size ≤ maxLen) :
    Calls Try.prog 7 #[.string s, .string t] w fun e w' => e = .returned (.bool true) ∧ Below w.heap.size w w' := by
  rw [str_of s, str_of t]
  exact walk1 _ _ w hs ht

theorem own : ownKnob Try.prog.godebug = none := by kernel_rfl
theorem laidOut : laidOutB Try.prog = true := by kernel_rfl

set_option maxRecDepth 100000 in
theorem lifted (os : Os) (started : os.Started) (H : Type) (enc : TypeId × Value → H) :
    ReturnsInHanded {} Try.checked os 7 .any (Rows.lexTwoSpec.pre6 enc Try.prog Try.f7 Rows.lexTwoRow.domain false) (Rows.lexTwoSpec.post enc Try.prog Try.f7 false true false false) := by
  refine returnsInHanded_of_change (C := Try.checked) own started (by kernel_rfl) Try.func7
    (ChangeSpec.witness6 (enc := enc) (C := Try.checked) false ⟨#[], #[.string ⟨#[]⟩, .string ⟨#[]⟩], []⟩ 8 (by kernel_rfl) (by kernel_rfl) (by kernel_rfl) (by kernel_rfl)) ?_
  intro W base args ds gs before hval0 hW hcnd _
  have hval : ∀ (j : Nat) t v, Try.f7.params[j]? = some t → args[j]? = some v → Value.okWide Try.prog W .any base t v := hval0
  have hW' := hW
  obtain ⟨p, q, hA0, hV, rfl, hfz, hnd⟩ := hW
  have hA : DataW.TrodAll enc Try.prog W 0 (fun _ => true) true Try.f7.params.toList args.toList ds p := hA0
  rw [Try.params7] at hA hval
  obtain ⟨v0, vs0, d0, ds0, p0, q0, hargs, rfl, rfl, h0, r0⟩ := trodAll_cons hA
  obtain ⟨v1, vs1, d1, ds1, p1, q1, rfl, rfl, rfl, h1, r1⟩ := trodAll_cons r0
  obtain ⟨rfl, rfl, rfl⟩ := trodAll_nil r1
  obtain rfl : args = #[v0, v1] := by cases args; simp_all
  obtain ⟨rfl, rfl⟩ := trodVars_none hV
  obtain ⟨a0, rfl, rfl, rfl, w0⟩ := open_string Try.underlying9 (hval 0 9 v0 rfl rfl) h0
  obtain ⟨a1, rfl, rfl, rfl, w1⟩ := open_string Try.underlying9 (hval 1 9 v1 rfl rfl) h1
  clear hA0 hval0
  refine (walk a0 a1 W w0 w1).mono fun e W' ⟨he, bel⟩ => ?_
  subst he
  exact ⟨_, rfl, _, _, _, [], _, [], hW', trodAll_mk1 (shut_bool Try.underlying4 _), (trodAll_cons_mk (shut_string Try.underlying9 w0) (trodAll_cons_mk (shut_string Try.underlying9 w1) trodAll_mk0)), rfl, bel.frame _, fun h => by cases h⟩

theorem over : Rows.lexTwoRow.holds Try.pinned (OpenSpec.ofChange Rows.lexTwoSpec) :=
  OpenClaim.holds_of_wide 7 Try.f7 rfl rfl rfl rfl rfl rfl rfl ⟨rfl, rfl, rfl, rfl, rfl⟩ rfl rfl rfl rfl rfl (by kernel_rfl) Try.func7 (by kernel_rfl)
    (of_decide_eq_true (by kernel_rfl)) (by unfold Func.isWrapper; first | (rw [if_pos (by decide +kernel)]; kernel_rfl) | (rw [if_neg (by decide +kernel)]; exact ⟨rfl, rfl⟩))
    (fun os started H enc _ => lifted os started H enc)

theorem proved : Rows.LexTwoSaid := over
#print axioms proved

end Go.Proofs.Ytlggdeadkebgiaa.lexTwo
