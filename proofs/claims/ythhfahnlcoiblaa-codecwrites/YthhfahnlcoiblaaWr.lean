/- For any slice of values the law CodecWrites of the program returns true and leaves it as it was: any values are written as the chapter says; they stay, and what is told is the caller's own. No condition. -/
import Derived.Test.YthhfahnlcoiblaaFm
namespace Go.Proofs.Ythhfahnlcoiblaa.codecWrites
open Go.ChangeShapes Go.WideShapes Go.ChangeAt Go.RowKit
set_option linter.unusedVariables false

theorem m_bySet {B : Nat} {w0 w : World} {l : List Ob} (h : Many B w0 w l) (i : Nat) {g n c : Nat} {zs : List Int} (hi : l[i]? = some (.by_ (.slice (some ⟨g, 0, none⟩) n c) zs)) (j : Nat) (y : Int) (hy : 0 ≤ y ∧ y < 256) : Many B w0 (w.setCell ⟨g, j, none⟩ (.int .u8 y)) (l.set i (.by_ (.slice (some ⟨g, 0, none⟩) n c) (zs.set j y))) := by
  obtain ⟨F, hA, _, ht⟩ := h.get i hi
  exact ht _ _ ⟨F, ⟨own_set hA.1 j y hy, hA.2.1, fun k hk => by rw [size_set]; exact hA.2.2 k hk⟩, kept_set _ _ _ _ (hA.2.1 g rfl), fun _ hk => .inl hk⟩
theorem by_cell {B : Nat} {w0 w : World} {l : List Ob} (h : Many B w0 w l) (i : Nat) {a : Option Addr} {n c : Nat} {zs : List Int} (hi : l[i]? = some (.by_ (.slice a n c) zs)) : n = zs.length ∧ n ≤ c ∧ c ≤ 9223372036854775807 ∧ (0 < n → ∃ g, a = some ⟨g, 0, none⟩ ∧ ∀ j, j < n → w.cell? ⟨g, j, none⟩ = some (.int .u8 (zs.getD j 0)) ∧ w.frozen? ⟨g, j, none⟩ = false) := by
  have ho := m_by h i hi
  rcases ho.form with ⟨e, rfl⟩ | ⟨g, c', cur, e, h1, h2, _, h3, _, h4⟩
  · cases e; exact ⟨rfl, by omega, by omega, fun h => by omega⟩
  · cases e
    unfold maxLen at h2
    exact ⟨rfl, h1, h2, fun _ => ⟨g, rfl, fun j hj => ⟨by rw [cell_of h3]; exact h4 j hj, frozen_of h3 j⟩⟩⟩
set_option maxRecDepth 100000 in
set_option maxHeartbeats 8000000 in
theorem walk (v0 : Value) (l : List Vl) (w : World) (h0 : IsVs w v0 l) :
    Calls Try.prog 3 #[v0] w fun e w' => e = .returned (.bool true) ∧ Below w.heap.size w w' := by
  obtain ⟨a0, c0, rfl⟩ := h0.slice
  have hml := h0.1
  unfold maxLen at hml
  replace h0 := hid h0
  go_enter Try.func3, Try.ntmps3
  go_wp2_with fail
  refine (great_any _ l w h0.out).mono ?_
  rintro e w2 ⟨r1, rfl, hf1, q1, rfl⟩
  have B3 := hid (below_drewN (n := q1) (Below.refl w.heap.size w))
  generalize w.drewN q1 = w3 at *
  cases r1 with
  | true =>
    clear hf1
    go_wp2
    go_ret
    exact ⟨rfl, B3.out⟩
  | false =>
    replace hf1 := hid (hf1 rfl)
    have hl3 : l.length ≤ 300 := hf1.out.1
    replace h0 := hid (h0.out.below B3.out)
    go_wp2_with fail
    refine (m_new (Many.nil w3)).mono ?_
    rintro e w4 ⟨p, rfl, m4⟩
    have m5 : Many w3.heap.size w3 w4 [.wr p [], .by_ (.slice none 0 0) []] := m_own m4 (Below.refl _ _) (own_nil _ _)
    replace m5 := hid m5
    clear m4
    go_wp2
    go_loopw [4, 5] (fun sv iv wr => ∃ (k : Nat) (a : Option Addr) (c : Nat), k ≤ l.length ∧ iv = .int .i64 (k : Int) ∧ (forms l k).length ≤ 20010 * k ∧ sv = .slice a (forms l k).length c ∧ Many w3.heap.size w3 wr [.wr p (forms l k), .by_ (.slice a (forms l k).length c) (forms l k)]) (fun _ iv _ => l.length - (intOf iv).toNat)
    case atStart => exact ⟨0, none, 0, by omega, rfl, by simp [forms], rfl, m5.out⟩
    case round =>
      clear m5
      obtain ⟨k, aw, cw, hk, rfl, hfl, rfl, mk⟩ := hrel
      by_cases hlt : k < l.length
      · have hlt' : (k : Int) < (l.length : Int) := by omega
        obtain ⟨b, off, va, vc, rfl, hok, hsl, hB0, hq⟩ := h0.out.get k hlt
        have hs := form_short hf1.out hlt hok
        have hat := hf1.out.at k hlt
        have hfs := hid (forms_succ l k hlt)
        obtain ⟨q0, q1, q2, q3, q4, q5, q6⟩ := hq wr mk.low
        have hq' := hid hq
        have hbl := World.block_lt_of_cell? wr _ q0
        simp only at hbl
        replace hok := hid hok
        generalize l[k] = x at *
        generalize hZ : forms l k = Z at *
        replace hZ := hid hZ
        have mbx := m_boxNew mk #[.int .u8 (x.k : Int), .int .u64 (x.u : Int), .int .i64 x.i, .bool x.b, .slice va x.l.length vc, .string ⟨x.s.toArray⟩, .int .i64 x.n] 29
        have hcp := hid (copy_any _ x.l _ (hB0.below mbx.low) (by omega))
        have mbx' : Many w3.heap.size w3 (wr.alloc (.cells #[.int .u8 (x.k : Int), .int .u64 (x.u : Int), .int .i64 x.i, .bool x.b, .slice va x.l.length vc, .string ⟨x.s.toArray⟩, .int .i64 x.n] 29)) [.wr p Z, .by_ (.slice aw Z.length cw) Z, .bx wr.heap.size #[.int .u8 (x.k : Int), .int .u64 (x.u : Int), .int .i64 x.i, .bool x.b, .slice va x.l.length vc, .string ⟨x.s.toArray⟩, .int .i64 x.n] 29] := mbx
        replace mbx' := hid mbx'
        replace mk := hid mk
        replace hB0 := hid hB0
        clear hq mbx
        go_wp2_with fail
        refine hcp.out.mono ?_
        rintro e w5 ⟨a5, c5, rfl, o5, b5⟩
        have m6 : Many w3.heap.size w3 w5 [.wr p Z, .by_ (.slice aw Z.length cw) Z, .bx wr.heap.size #[.int .u8 (x.k : Int), .int .u64 (x.u : Int), .int .i64 x.i, .bool x.b, .slice va x.l.length vc, .string ⟨x.s.toArray⟩, .int .i64 x.n] 29, .by_ (.slice a5 x.l.length c5) x.l] := m_own mbx'.out b5 o5
        have m7 := m_boxSet m6 2 rfl 4 (.slice a5 x.l.length c5)
        have m8 : Many w3.heap.size w3 (w5.setCell ⟨wr.heap.size, 4, none⟩ (.slice a5 x.l.length c5)) [.wr p Z, .by_ (.slice aw Z.length cw) Z, .bx wr.heap.size #[.int .u8 (x.k : Int), .int .u64 (x.u : Int), .int .i64 x.i, .bool x.b, .slice a5 x.l.length c5, .string ⟨x.s.toArray⟩, .int .i64 x.n] 29, .by_ (.slice a5 x.l.length c5) x.l] := m7
        have hwc := hid (m_writeBy m8 0 3 rfl x _ rfl (by decide) hok.out (by omega) (by omega) (by omega))
        unfold agg str at hwc
        have hbox := m_box m6 2 rfl
        have d0 := cell_of hbox 0
        have d1 := cell_of hbox 1
        have d2 := cell_of hbox 2
        have d3 := cell_of hbox 3
        have d4 := cell_of hbox 4
        have d5 := cell_of hbox 5
        have d6 := cell_of hbox 6
        have df := frozen_of hbox 4
        simp at d0 d1 d2 d3 d4 d5 d6
        clear o5 b5 m6 m7 hbox hcp mbx' mk q0 q1 q2 q3 q4 q5 q6
        replace m8 := hid m8
        go_wp2_with fail
        refine hwc.out.mono ?_
        rintro e w6 ⟨rfl, m9⟩
        have m9' : Many w3.heap.size w3 w6 [.wr p (Z ++ form x), .by_ (.slice aw Z.length cw) Z, .bx wr.heap.size #[.int .u8 (x.k : Int), .int .u64 (x.u : Int), .int .i64 x.i, .bool x.b, .slice a5 x.l.length c5, .string ⟨x.s.toArray⟩, .int .i64 x.n] 29, .by_ (.slice a5 x.l.length c5) x.l] := m9
        clear d0 d1 d2 d3 d4 d5 d6 df m8 hwc m9
        generalize hC : (#[.int .u8 (x.k : Int), .int .u64 (x.u : Int), .int .i64 x.i, .bool x.b, .slice a5 x.l.length c5, .string ⟨x.s.toArray⟩, .int .i64 x.n] : Array Value) = C at m9'
        have hC4 : C[4]? = some (.slice a5 x.l.length c5) := by rw [← hC]; rfl
        clear hC
        have e4 : w6.cell? ⟨wr.heap.size, 4, none⟩ = some (.slice a5 x.l.length c5) := by rw [cell_of (m_box m9' 2 rfl)]; exact hC4
        obtain ⟨-, -, -, -, q4, -, -⟩ := hq'.out w6 m9'.low
        have iA := hid (fun (W : World) (e : W.heap = w6.heap) => (m_by m9' 3 rfl).isB.heap e)
        have iB := hid (fun (W : World) (e : W.heap = w6.heap) => (hB0.out.below m9'.low).heap e)
        have hbc := by_cell m9' 3 rfl
        obtain ⟨-, hbc1, hbc2, -⟩ := hbc
        have mh := hid (fun n => m9'.heap n)
        clear m9'
        generalize wr.heap.size = sb at *
        go_wp2
        go_quiet ((go_at_call 13; exact Calls.quiet_of (same_any _ _ x.l x.l _ (by exact iA.out _ rfl) (by exact iB.out _ rfl))))
        have m10 := hid (mh.out nq)
        clear mh iA iB e4 q4
        generalize w6.drewN nq = w7 at *
        go_wp2
        go_loopw [7] (fun kv wx => ∃ (j : Nat) (ys : List Int), j ≤ x.l.length ∧ kv = .int .i64 (j : Int) ∧ Many w3.heap.size w3 wx [.wr p (Z ++ form x), .by_ (.slice aw Z.length cw) Z, .bx sb C 29, .by_ (.slice a5 x.l.length c5) ys]) (fun kv _ => x.l.length - (intOf kv).toNat)
        case atStart => exact ⟨0, x.l, by omega, rfl, m10.out⟩
        case round =>
          clear m10
          obtain ⟨j, ys, hj, rfl, mj⟩ := hrel
          have e4 := (cell_of (m_box mj 2 rfl) 4).trans hC4
          by_cases hjt : j < x.l.length
          · have hjt' : (j : Int) < (x.l.length : Int) := by omega
            obtain ⟨hyl, -, -, hcc⟩ := by_cell mj 3 rfl
            obtain ⟨g, rfl, hcell⟩ := hcc (by omega)
            obtain ⟨c1, f1⟩ := hcell j hjt
            have hyb := (m_by mj 3 rfl).1.getD j (by omega)
            have ms := hid (fun y hy => m_bySet mj 3 rfl j y hy)
            clear hcell mj hyl
            generalize ys.getD j 0 = z at *
            obtain ⟨hz0, hz1⟩ := hyb
            have hz1' : z ≤ 255 := by omega
            clear hz1
            go_wp2
            go_roundw
            case rel => exact ⟨j + 1, _, by omega, by go_num, ms.out _ (by first | (rw [IntKind.wrap_u8]; omega) | omega)⟩
            case measure => simp [intOf]; omega
          · have hjt' : ¬ (j : Int) < (x.l.length : Int) := by omega
            obtain ⟨q0, q1, q2, q3, q4, q5, q6⟩ := hq'.out _ mj.low
            have hfm := hid (rform x va vc _ hok.out (hB0.out.below mj.low) (by omega) (by omega))
            unfold agg str at hfm
            replace mj := hid mj
            go_wp2_with fail
            refine hfm.out.mono ?_
            rintro e w8 ⟨a8, c8, rfl, o8, b8⟩
            obtain ⟨a9, c9, w9, hrun, m9⟩ := m_app (mj.out.later b8) 1 rfl o8.isB (by omega)
            have m9' : Many w3.heap.size w3 w9 [.wr p (Z ++ form x), .by_ (.slice a9 (Z.length + (form x).length) c9) (Z ++ form x), .bx sb C 29, .by_ (.slice a5 x.l.length c5) ys] := m9
            have hZl : (Z ++ form x).length = Z.length + (form x).length := List.length_append
            rw [← hZl] at m9' hrun
            have hZ2 : (Z ++ form x).length ≤ 20010 * (k + 1) := by rw [hZl]; omega
            have hfz : Hid (forms l (k + 1) = Z ++ form x) := by show _ = _; rw [hfs.out]
            generalize Z ++ form x = Z' at *
            have hout := hid (m_out m9' 0 rfl (by omega))
            replace m9' := hid m9'
            clear m9 mj o8 b8 q0 q1 q2 q3 q4 q5 q6 e4 hfm hZl hfl
            go_wp2_with (at_builtin; refine wpList_append_run _ rfl _ _ 26 rfl _ _ _ _ rfl rfl hrun ?_)
            refine hout.out.mono ?_
            rintro e w10 ⟨a10, c10, rfl, o10, -, b10⟩
            have m11 : Many w3.heap.size w3 w10 [.wr p Z', .by_ (.slice a9 Z'.length c9) Z', .bx sb C 29, .by_ (.slice a5 x.l.length c5) ys, .by_ (.slice a10 Z'.length c10) Z'] := m_own m9'.out b10 o10
            have ia := hid (m_by m11 4 rfl).isB
            have ib := hid (m_by m11 1 rfl).isB
            obtain ⟨-, hc1, hc2, -⟩ := by_cell m11 4 rfl
            replace m11 := hid m11
            clear o10 b10 m9' hout hrun
            go_wp2_with fail
            refine (same_any _ _ _ _ _ ia.out ib.out).mono ?_
            rw [show (Z' == Z') = true by simp]
            rintro e w12 ⟨rfl, n12, rfl⟩
            have m12 := hid (m11.out.heap n12)
            clear m11 ia ib
            generalize w10.drewN n12 = w12 at *
            go_wp2
            go_loopw [9] (fun kv wx => ∃ (i : Nat) (us : List Int), i ≤ Z'.length ∧ kv = .int .i64 (i : Int) ∧ Many w3.heap.size w3 wx [.wr p Z', .by_ (.slice a9 Z'.length c9) Z', .bx sb C 29, .by_ (.slice a5 x.l.length c5) ys, .by_ (.slice a10 Z'.length c10) us]) (fun kv _ => Z'.length - (intOf kv).toNat)
            case atStart => exact ⟨0, Z', by omega, rfl, m12.out⟩
            case round =>
              clear m12
              obtain ⟨i, us, hi, rfl, mi⟩ := hrel
              by_cases hit : i < Z'.length
              · have hit' : (i : Int) < (Z'.length : Int) := by omega
                obtain ⟨hyl, -, -, hcc⟩ := by_cell mi 4 rfl
                obtain ⟨g, rfl, hcell⟩ := hcc (by omega)
                obtain ⟨c1, f1⟩ := hcell i hit
                have hyb := (m_by mi 4 rfl).1.getD i (by omega)
                have ms := hid (fun y hy => m_bySet mi 4 rfl i y hy)
                clear hcell mi hyl
                generalize us.getD i 0 = z at *
                obtain ⟨hz0, hz1⟩ := hyb
                have hz1' : z ≤ 255 := by omega
                clear hz1
                go_wp2
                go_roundw
                case rel => exact ⟨i + 1, _, by omega, by go_num, ms.out _ (by first | (rw [IntKind.wrap_u8]; omega) | omega)⟩
                case measure => simp [intOf]; omega
              · have hit' : ¬ (i : Int) < (Z'.length : Int) := by omega
                replace mi := hid mi
                go_wp2
                go_roundw
                case rel => exact ⟨k + 1, a9, c9, by omega, by go_num, by rw [hfz.out]; exact hZ2, by rw [hfz.out], by rw [hfz.out]; exact Many.first (l := [_, _]) mi.out⟩
                case measure => simp [intOf]; omega
      · have hlt' : ¬ (k : Int) < (l.length : Int) := by omega
        have hout := hid (m_out mk 0 rfl (by omega))
        have iw := hid (fun W (hb : Below wr.heap.size wr W) => (m_by (mk.later hb) 1 rfl).isB)
        replace mk := hid mk
        go_wp2_with fail
        refine hout.out.mono ?_
        rintro e w5 ⟨a5, c5, rfl, o5, m5, b5⟩
        have i5 := hid (iw.out _ b5)
        replace o5 := hid o5
        replace m5 := hid m5
        clear b5
        go_wp2_with fail
        refine (same_any _ _ _ _ _ o5.out.isB i5.out).mono ?_
        rintro e w6 ⟨rfl, n, rfl⟩
        go_wp2
        go_ret
        exact ⟨by simp, B3.out.trans (((m5.out.heap n).low).mono B3.out.size)⟩

theorem own : ownKnob Try.prog.godebug = none := by kernel_rfl
theorem laidOut : laidOutB Try.prog = true := by kernel_rfl

set_option maxRecDepth 100000 in
theorem lifted (os : Os) (started : os.Started) (H : Type) (enc : TypeId × Value → H) :
    ReturnsInHanded {} Try.checked os 3 .any (Rows.codecWritesSpec.pre6 enc Try.prog Try.f3 Rows.codecWritesRow.domain false) (Rows.codecWritesSpec.post enc Try.prog Try.f3 false true false false) := by
  refine returnsInHanded_of_change (C := Try.checked) own started (by kernel_rfl) Try.func3
    (ChangeSpec.witness6 (enc := enc) (C := Try.checked) false ⟨#[], #[.slice none 0 0], []⟩ 8 (by kernel_rfl) (by kernel_rfl) (by kernel_rfl) (by kernel_rfl)) ?_
  intro W base args ds gs before hval0 hW hcnd _
  have hval : ∀ (j : Nat) t v, Try.f3.params[j]? = some t → args[j]? = some v → Value.okWide Try.prog W .any base t v := hval0
  have hW' := hW
  obtain ⟨p, q, hA0, hV, rfl, hfz, hnd⟩ := hW
  have hA : DataW.TrodAll enc Try.prog W 0 (fun _ => true) true Try.f3.params.toList args.toList ds p := hA0
  rw [Try.params3] at hA hval
  obtain ⟨v0, vs0, d0, ds0, p0, q0, hargs, rfl, rfl, h0, r0⟩ := trodAll_cons hA
  obtain ⟨rfl, rfl, rfl⟩ := trodAll_nil r0
  obtain rfl : args = #[v0] := by cases args; simp_all
  obtain ⟨rfl, rfl⟩ := trodVars_none hV
  have k0 := h0
  have lt0 : ∀ x ∈ p0, x.block < W.heap.size := by obtain ⟨m, hm⟩ := k0; exact DataW.trod_lt m _ _ _ hm
  obtain ⟨l0, w0⟩ := open_vals (hval 0 22 v0 rfl rfl) h0
  clear hA0 hval0
  refine (walk v0 l0 W w0).mono fun e W' ⟨he, bel⟩ => ?_
  subst he
  exact ⟨_, rfl, _, _, _, [], _, [], hW', trodAll_mk1 (shut_bool Try.underlying4 _), (trodAll_cons_mk (Below.trod laidOut (by kernel_rfl) (of_decide_eq_true (by kernel_rfl)) k0 bel lt0) trodAll_mk0), rfl, bel.frame _, fun h => by cases h⟩

theorem over : Rows.codecWritesRow.holds Try.pinned (OpenSpec.ofChange Rows.codecWritesSpec) :=
  OpenClaim.holds_of_wide 3 Try.f3 rfl rfl rfl rfl rfl rfl rfl ⟨rfl, rfl, rfl, rfl, rfl⟩ rfl rfl rfl rfl rfl (by kernel_rfl) Try.func3 (by kernel_rfl)
    (of_decide_eq_true (by kernel_rfl)) (by unfold Func.isWrapper; first | (rw [if_pos (by decide +kernel)]; kernel_rfl) | (rw [if_neg (by decide +kernel)]; exact ⟨rfl, rfl⟩))
    (fun os started H enc _ => lifted os started H enc)

theorem proved : Rows.CodecWritesSaid := over
#print axioms proved

end Go.Proofs.Ythhfahnlcoiblaa.codecWrites
