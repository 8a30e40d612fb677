/- For any value the law CodecNone of the program returns true and leaves it as it was: of what is nil, or nobody made, nothing is written or told. No condition. -/
import Derived.Test.YthhfahnlcoiblaaNb
namespace Go.Proofs.Ythhfahnlcoiblaa.codecNone
open Go.ChangeShapes Go.WideShapes Go.ChangeAt Go.RowKit
set_option linter.unusedVariables false

/-- the five blocks that the law lays first. -/
structure Five (s : Nat) (x : Vl) (lv : Value) (W : World) : Prop where
  v : W.heap[s]? = some (.cells #[.int .u8 (x.k : Int), .int .u64 (x.u : Int), .int .i64 x.i, .bool x.b, lv, .string ⟨x.s.toArray⟩, .int .i64 x.n] 29)
  a : W.heap[s + 1]? = some (.cells #[.pointer none] 52)
  b : W.heap[s + 2]? = some (.cells #[.pointer none, .pointer (some ⟨s + 1, 0, none⟩)] 24)
  c : W.heap[s + 3]? = some (.cells #[.pointer none, .bool false] 55)
  d : W.heap[s + 4]? = some (.cells #[.pointer none, .pointer (some ⟨s + 3, 0, none⟩)] 36)
theorem Five.below {s : Nat} {x : Vl} {lv : Value} {W W' : World} (h : Five s x lv W) (hb : Below W.heap.size W W') : Five s x lv W' :=
  ⟨(hb.block _ (lt_of_block h.v)).trans h.v, (hb.block _ (lt_of_block h.a)).trans h.a, (hb.block _ (lt_of_block h.b)).trans h.b, (hb.block _ (lt_of_block h.c)).trans h.c, (hb.block _ (lt_of_block h.d)).trans h.d⟩
/-- the k-th writer, the k-th reader. -/
def wv (s k : Nat) : Value := if k = 0 then .pointer none else ptr (s + 1)
def rv (s k : Nat) : Value := if k = 0 then .pointer none else ptr (s + 3)
theorem Five.w {s : Nat} {x : Vl} {lv : Value} {W : World} (h : Five s x lv W) {k : Nat} (hk : k < 2) : W.cell? ⟨s + 2, k, none⟩ = some (wv s k) ∧ Nob W (wv s k) := by
  obtain rfl | rfl : k = 0 ∨ k = 1 := by omega
  · exact ⟨by rw [cell_of h.b]; rfl, .inl rfl⟩
  · exact ⟨by rw [cell_of h.b]; rfl, .inr ⟨_, rfl, by rw [cell_of h.a]; rfl⟩⟩
theorem Five.r {s : Nat} {x : Vl} {lv : Value} {W : World} (h : Five s x lv W) {k : Nat} (hk : k < 2) : W.cell? ⟨s + 4, k, none⟩ = some (rv s k) ∧ Nob W (rv s k) := by
  obtain rfl | rfl : k = 0 ∨ k = 1 := by omega
  · exact ⟨by rw [cell_of h.d]; rfl, .inl rfl⟩
  · exact ⟨by rw [cell_of h.d]; rfl, .inr ⟨_, rfl, by rw [cell_of h.c]; rfl⟩⟩
theorem Five.x {s : Nat} {x : Vl} {lv : Value} {W : World} (h : Five s x lv W) : CellsAt W s 0 x lv := by
  unfold CellsAt
  simp only [cell_of h.v, Nat.zero_add]
  exact ⟨rfl, rfl, rfl, rfl, rfl, rfl, rfl⟩
theorem five_new (w : World) (o0 o1 o2 o3 o4 : Obj) : (((((w.alloc o0).alloc o1).alloc o2).alloc o3).alloc o4).heap[w.heap.size]? = some o0 ∧ (((((w.alloc o0).alloc o1).alloc o2).alloc o3).alloc o4).heap[w.heap.size + 1]? = some o1 ∧ (((((w.alloc o0).alloc o1).alloc o2).alloc o3).alloc o4).heap[w.heap.size + 2]? = some o2 ∧ (((((w.alloc o0).alloc o1).alloc o2).alloc o3).alloc o4).heap[w.heap.size + 3]? = some o3 ∧ (((((w.alloc o0).alloc o1).alloc o2).alloc o3).alloc o4).heap[w.heap.size + 4]? = some o4 := by
  have t1 := two_blocks w o0 o1
  have t2 := two_blocks ((w.alloc o0).alloc o1) o2 o3
  have t3 := new_block ((((w.alloc o0).alloc o1).alloc o2).alloc o3) o4
  have e2 : ((w.alloc o0).alloc o1).heap.size = w.heap.size + 2 := by simp
  have e4 : ((((w.alloc o0).alloc o1).alloc o2).alloc o3).heap.size = w.heap.size + 4 := by simp
  rw [e2] at t2
  rw [e4] at t3
  have b1 : Below ((w.alloc o0).alloc o1).heap.size ((w.alloc o0).alloc o1) (((((w.alloc o0).alloc o1).alloc o2).alloc o3).alloc o4) := (((Below.refl _ _).alloc (Nat.le_refl _) _).alloc (by simp) _).alloc (by simp) _
  have b2 := alloc_below ((((w.alloc o0).alloc o1).alloc o2).alloc o3) o4
  exact ⟨(b1.block _ (by omega)).trans t1.1, (b1.block _ (by omega)).trans t1.2, (b2.block _ (by omega)).trans t2.1, (b2.block _ (by omega)).trans t2.2, t3⟩
theorem m_box7s {B : Nat} {w0 w : World} {pv : Nat} {cs : Array Value} {t : TypeId} (h : Many B w0 w [.bx pv cs t]) (hc : cs.size = 7) (v0 v1 v2 v3 v4 v5 v6 : Value) :
    Many B w0 (((((((w.setCell ⟨pv, 0, none⟩ v0).setCell ⟨pv, 1, none⟩ v1).setCell ⟨pv, 2, none⟩ v2).setCell ⟨pv, 3, none⟩ v3).setCell ⟨pv, 4, none⟩ v4).setCell ⟨pv, 5, none⟩ v5).setCell ⟨pv, 6, none⟩ v6) [.bx pv #[v0, v1, v2, v3, v4, v5, v6] t] := by
  have st : ∀ (W : World) (cs : Array Value) (o : Nat) (v : Value), Many B w0 W [.bx pv cs t] → Many B w0 (W.setCell ⟨pv, o, none⟩ v) [.bx pv (cs.setIfInBounds o v) t] := fun W cs o v hW => m_boxSet hW 0 (pv := pv) (cs := cs) (t := t) rfl o v
  match cs, hc with
  | ⟨[c0, c1, c2, c3, c4, c5, c6]⟩, _ =>
    have g0 := st _ _ 0 v0 h
    have g1 := st _ _ 1 v1 g0
    have g2 := st _ _ 2 v2 g1
    have g3 := st _ _ 3 v3 g2
    have g4 := st _ _ 4 v4 g3
    have g5 := st _ _ 5 v5 g4
    have g6 := st _ _ 6 v6 g5
    clear g0 g1 g2 g3 g4 g5 st h
    simp only [List.setIfInBounds_toArray, List.set_cons_zero, List.set_cons_succ] at g6
    exact g6
def Boxed (w5 wx : World) (k : Nat) (s6 : Value) : Prop := ∃ pv, s6 = .pointer (some ⟨pv, 0, none⟩) ∧ Many w5.heap.size w5 wx [.bx pv #[.int .u8 (k : Int), .int .u64 0, .int .i64 0, .bool false, .slice none 0 0, .string ⟨#[]⟩, .int .i64 0] 29]
set_option maxHeartbeats 8000000 in
theorem walk (v0 : Value) (x : Vl) (w : World) (h : x.Ok ∧ x.s.length ≤ maxLen ∧ ∃ lv, v0 = agg x lv ∧ IsB w lv x.l) :
    Calls Try.prog 5 #[v0] w fun e w' => e = .returned (.bool true) ∧ Below w.heap.size w w' := by
  obtain ⟨hx, hsl, lv, rfl, hB⟩ := h
  obtain ⟨a, c, rfl⟩ := hB.slice
  obtain ⟨-, hb1, hb2⟩ := hB.bound
  unfold maxLen at hsl
  have hs1 : (⟨x.s.toArray⟩ : ByteArray).size = x.s.length := by show x.s.toArray.size = _; simp
  have hk := hx.k
  obtain ⟨hn0, hn1⟩ := hx.n
  replace hx := hid hx
  clear hB
  unfold agg str
  by_cases h5 : 5 < x.k
  · have h5' : (5 : Int) < (x.k : Int) := by omega
    go_enter Try.func5, Try.ntmps5
    go_wp2
    go_ret
    exact ⟨rfl, alloc_below _ _⟩
  have h5' : ¬ (5 : Int) < (x.k : Int) := by omega
  by_cases hl : 20000 < x.l.length
  · have hl' : (20000 : Int) < (x.l.length : Int) := by omega
    go_enter Try.func5, Try.ntmps5
    go_wp2
    go_ret
    exact ⟨rfl, alloc_below _ _⟩
  have hl' : ¬ (20000 : Int) < (x.l.length : Int) := by omega
  by_cases hs : 20000 < x.s.length
  · have hs' : (20000 : Int) < (x.s.length : Int) := by omega
    go_enter Try.func5, Try.ntmps5
    go_wp2
    go_ret
    exact ⟨rfl, alloc_below _ _⟩
  have hs' : ¬ (20000 : Int) < (x.s.length : Int) := by omega
  obtain ⟨w5, hw5⟩ : ∃ w5, w5 = (((((w.alloc (.cells #[.int .u8 (x.k : Int), .int .u64 (x.u : Int), .int .i64 x.i, .bool x.b, .slice a x.l.length c, .string ⟨x.s.toArray⟩, .int .i64 x.n] 29)).alloc (.cells #[.pointer none] 52)).alloc (.cells #[.pointer none, .pointer (some ⟨w.heap.size + 1, 0, none⟩)] 24)).alloc (.cells #[.pointer none, .bool false] 55)).alloc (.cells #[.pointer none, .pointer (some ⟨w.heap.size + 3, 0, none⟩)] 36)) := ⟨_, rfl⟩
  have hF : Five w.heap.size x (.slice a x.l.length c) w5 := by
    have t := five_new w (.cells #[.int .u8 (x.k : Int), .int .u64 (x.u : Int), .int .i64 x.i, .bool x.b, .slice a x.l.length c, .string ⟨x.s.toArray⟩, .int .i64 x.n] 29) (.cells #[.pointer none] 52) (.cells #[.pointer none, .pointer (some ⟨w.heap.size + 1, 0, none⟩)] 24) (.cells #[.pointer none, .bool false] 55) (.cells #[.pointer none, .pointer (some ⟨w.heap.size + 3, 0, none⟩)] 36)
    rw [hw5]
    exact ⟨t.1, t.2.1, t.2.2.1, t.2.2.2.1, t.2.2.2.2⟩
  have hb5 : Below w.heap.size w w5 := by
    rw [hw5]
    exact ((((((Below.refl _ _).alloc (Nat.le_refl _) _).alloc (by simp) _).alloc (by simp; omega) _).alloc (by simp; omega) _).alloc (by simp; omega) _)
  replace hF := hid hF
  replace hb5 := hid hb5
  replace hw5 := hid hw5
  go_enter Try.func5, Try.ntmps5
  go_wp2
  go_loopw [5] (fun iv wr => ∃ k : Nat, k ≤ 2 ∧ iv = .int .i64 (k : Int) ∧ Below w5.heap.size w5 wr) (fun iv _ => 2 - (intOf iv).toNat)
  case atStart => exact ⟨0, by omega, rfl, by rw [hw5.out]; exact Below.refl _ _⟩
  case round =>
    clear hw5
    obtain ⟨k, hk2, rfl, hbr⟩ := hrel
    by_cases hlt : k < 2
    · have hlt' : (k : Int) < 2 := by omega
      have hx5 : x.k ≤ 5 := by omega
      have hsz : w.heap.size + 4 < w5.heap.size := lt_of_block hF.out.d
      have hfive := hid (fun W (hb : Below w5.heap.size w5 W) => hF.out.below hb)
      have mr := hid ((Many.nil w5).later hbr)
      go_upto_region 8 with fail
      go_cut [] from 29 to 76 (fun wx => Below w5.heap.size w5 wx)
      case first =>
        obtain ⟨f0, f1, f2, f3, f4, f5, f6⟩ := (hfive.out wr hbr).x
        obtain ⟨g0, g1⟩ := (hfive.out wr hbr).w hlt
        simp only [Nat.zero_add] at f1 f2 f3 f4 f5 f6
        have hwr := hid (fun n => nwrite x a c hx.out hx5 (wr.drewN n) (wv w.heap.size k) (g1.below (below_drewN (Below.refl _ _))))
        unfold agg str at hwr
        replace hbr := hid hbr
        clear g1
        go_region_with (go_at_call 12; refine (hwr.out _).mono ?_; rintro e w2 ⟨rfl, b2⟩; replace b2 := hid b2)
        all_goals (try go_wp2_with fail)
        all_goals go_meet
        all_goals exact ((below_drewN (n := 1) hbr.out).trans (b2.out.mono hbr.out.size))
      case rest =>
        clear mr hbr
        have hbc := hcut
        obtain ⟨g0, g1⟩ := (hfive.out wc hbc).w hlt
        have ho := hid (nout wc _ g1)
        have mc := hid ((Many.nil w5).later hbc)
        replace hbc := hid hbc
        clear g1 hcut
        go_upto_region 11 with (go_at_call 15; refine ho.out.mono ?_; rintro e w' ⟨rfl, h2⟩; have h3 := h2.symm; clear h2; subst h3)
        go_cut [6] from 29 to 76 (fun s6 wx => Boxed w5 wx x.k s6)
        case first =>
          have ba := hbc.out.trans ((alloc_below wc (.cells (zcells 0) 29)).mono hbc.out.size)
          obtain ⟨f0, -, -, -, -, -, f6⟩ := (hfive.out wc hbc.out).x
          obtain ⟨p0, p1⟩ := (hfive.out wc hbc.out).r hlt
          obtain ⟨e0, -, -, -, -, -, e6⟩ := (hfive.out _ ba).x
          obtain ⟨o0, o1⟩ := (hfive.out _ ba).r hlt
          simp only [Nat.zero_add] at f6 e6
          have hr1 := hid (fun n => nread x.k x.n hx5 hn1 (wc.drewN n) (rv w.heap.size k) (p1.below (below_drewN (Below.refl _ _))))
          have hr2 := hid (fun n => nread x.k x.n hx5 hn1 ((wc.alloc (.cells (zcells 0) 29)).drewN n) (rv w.heap.size k) (o1.below (below_drewN (Below.refl _ _))))
          have mb := hid (m_boxNew mc.out (zcells 0) 29)
          have hz1 : w.heap.size < wc.heap.size := by have := hbc.out.size; omega
          have hz2 : w.heap.size + 4 < wc.heap.size := by have := hbc.out.size; omega
          unfold zcells at e0 e6 o0
          clear p1 o1 ba g0
          go_region_with (first | (go_at_call 17; refine (hr1.out _).mono ?_; rintro e w3 ⟨he, b3⟩; unfold agg zeroV str at he; subst he; have m3 := hid ((mc.out.heap _).later b3); clear b3) | (go_at_call 17; refine (hr2.out _).mono ?_; rintro e w3 ⟨he, b3⟩; unfold agg zeroV str at he; subst he; have m4 := (mb.out.heap _).later b3; clear b3; obtain ⟨⟨z0, z1, z2, z3, z4, z5, z6⟩, zf⟩ := box_zero (m_box m4 0 rfl); replace m4 := hid m4))
          all_goals (try go_wp2_with fail)
          all_goals go_meet
          all_goals first | exact ⟨_, rfl, m_boxNew m3.out _ _⟩ | exact ⟨_, rfl, m_box7s m4.out rfl _ _ _ _ _ _ _⟩
        case rest =>
          obtain ⟨pv, rfl, md⟩ := hcut
          clear mc hbc g0 ho
          have hcell := m_box md 0 rfl
          have d0 := cell_of hcell 0
          have d1 := cell_of hcell 1
          have d2 := cell_of hcell 2
          have d3 := cell_of hcell 3
          have d4 := cell_of hcell 4
          have d5 := cell_of hcell 5
          have d6 := cell_of hcell 6
          simp at d0 d1 d2 d3 d4 d5 d6
          obtain ⟨f0, -, -, -, -, -, -⟩ := (hfive.out _ md.low).x
          have hs := hid (sameV_yes (zeroV x.k) none none 0 0 _ (own_nil 0 wc).isB (own_nil 0 wc).isB)
          unfold agg zeroV str at hs
          replace md := hid md
          clear hcell
          go_wp2_with fail
          refine hs.out.mono ?_
          rintro e w6 ⟨rfl, b6⟩
          have m6 := md.out.later b6
          clear d0 d1 d2 d3 d4 d5 d6 f0 hs b6 md
          obtain ⟨p0, p1⟩ := (hfive.out _ m6.low).r hlt
          have he := hid (nerr p1)
          have hd := hid (ndone _ _ p1)
          replace m6 := hid m6
          clear p1
          go_wp2_with (first | (go_at_call 20; refine he.out.mono ?_; rintro e w7 ⟨rfl, rfl⟩) | (go_at_call 22; refine hd.out.mono ?_; rintro e w7 ⟨rfl, rfl⟩))
          go_roundw
          case rel => exact ⟨k + 1, by omega, by go_num, m6.out.low⟩
          case measure => simp [intOf]; omega
    · have hlt' : ¬ (k : Int) < 2 := by omega
      replace hbr := hid hbr
      go_wp2_with fail
      refine (m_new (Many.nil wr)).mono ?_
      rintro e w2 ⟨p, rfl, m2⟩
      replace m2 := hid m2
      go_wp2_with fail
      refine (m_uint m2.out 0 rfl 300 (by omega) (by simp)).mono ?_
      rintro e w3 ⟨rfl, m3⟩
      rw [vi300] at m3
      replace m3 := hid m3
      clear m2
      go_wp2_with fail
      refine (m_out m3.out 0 rfl (by simp)).mono ?_
      rintro e w4 ⟨a4, c4, rfl, o4, m4, -⟩
      replace m4 := hid m4
      clear o4
      go_wp2
      go_ret
      exact ⟨rfl, (hb5.out.trans (hbr.out.mono hb5.out.size)).trans (m4.out.low.mono (by have h1 := hb5.out.size; have h2 := hbr.out.size; omega))⟩

theorem own : ownKnob Try.prog.godebug = none := by kernel_rfl
theorem laidOut : laidOutB Try.prog = true := by kernel_rfl

set_option maxRecDepth 100000 in
theorem lifted (os : Os) (started : os.Started) (H : Type) (enc : TypeId × Value → H) :
    ReturnsInHanded {} Try.checked os 5 .any (Rows.codecNoneSpec.pre6 enc Try.prog Try.f5 Rows.codecNoneRow.domain false) (Rows.codecNoneSpec.post enc Try.prog Try.f5 false true false false) := by
  refine returnsInHanded_of_change (C := Try.checked) own started (by kernel_rfl) Try.func5
    (ChangeSpec.witness6 (enc := enc) (C := Try.checked) false ⟨#[], #[.agg #[.int .u8 0, .int .u64 0, .int .i64 0, .bool false, .slice none 0 0, .string ⟨#[]⟩, .int .i64 0]], []⟩ 8 (by kernel_rfl) (by kernel_rfl) (by kernel_rfl) (by kernel_rfl)) ?_
  intro W base args ds gs before hval0 hW hcnd _
  have hval : ∀ (j : Nat) t v, Try.f5.params[j]? = some t → args[j]? = some v → Value.okWide Try.prog W .any base t v := hval0
  have hW' := hW
  obtain ⟨p, q, hA0, hV, rfl, hfz, hnd⟩ := hW
  have hA : DataW.TrodAll enc Try.prog W 0 (fun _ => true) true Try.f5.params.toList args.toList ds p := hA0
  rw [Try.params5] at hA hval
  obtain ⟨v0, vs0, d0, ds0, p0, q0, hargs, rfl, rfl, h0, r0⟩ := trodAll_cons hA
  obtain ⟨rfl, rfl, rfl⟩ := trodAll_nil r0
  obtain rfl : args = #[v0] := by cases args; simp_all
  obtain ⟨rfl, rfl⟩ := trodVars_none hV
  have k0 := h0
  have lt0 : ∀ x ∈ p0, x.block < W.heap.size := by obtain ⟨m, hm⟩ := k0; exact DataW.trod_lt m _ _ _ hm
  obtain ⟨l0, w0⟩ := open_val (hval 0 29 v0 rfl rfl) h0
  clear hA0 hval0
  refine (walk v0 l0 W w0).mono fun e W' ⟨he, bel⟩ => ?_
  subst he
  exact ⟨_, rfl, _, _, _, [], _, [], hW', trodAll_mk1 (shut_bool Try.underlying4 _), (trodAll_cons_mk (Below.trod laidOut (by kernel_rfl) (of_decide_eq_true (by kernel_rfl)) k0 bel lt0) trodAll_mk0), rfl, bel.frame _, fun h => by cases h⟩

theorem over : Rows.codecNoneRow.holds Try.pinned (OpenSpec.ofChange Rows.codecNoneSpec) :=
  OpenClaim.holds_of_wide 5 Try.f5 rfl rfl rfl rfl rfl rfl rfl ⟨rfl, rfl, rfl, rfl, rfl⟩ rfl rfl rfl rfl rfl (by kernel_rfl) Try.func5 (by kernel_rfl)
    (of_decide_eq_true (by kernel_rfl)) (by unfold Func.isWrapper; first | (rw [if_pos (by decide +kernel)]; kernel_rfl) | (rw [if_neg (by decide +kernel)]; exact ⟨rfl, rfl⟩))
    (fun os started H enc _ => lifted os started H enc)

theorem proved : Rows.CodecNoneSaid := over
#print axioms proved

end Go.Proofs.Ythhfahnlcoiblaa.codecNone
