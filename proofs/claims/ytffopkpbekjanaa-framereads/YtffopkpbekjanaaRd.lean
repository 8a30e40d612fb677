/- For any slice of bytes and any number the law FrameReads of the program returns true and leaves the bytes as they were: bytes are read as frames as the document reads them, as far as one goes; they stay, and what is told is the caller's own. No condition. -/
import Derived.Test.YtffopkpbekjanaaAwake
import Derived.Test.YtffopkpbekjanaaOpen
import Derived.Test.YtffopkpbekjanaaTe
import Derived.Test.YtffopkpbekjanaaRef3
namespace Go.Proofs.Ytffopkpbekjanaa.frameReads
open Go.ChangeShapes Go.WideShapes Go.ChangeAt Go.RowKit Go.Shelf
set_option linter.unusedVariables false
attribute [local go_sem] Oper.semAt_some

theorem below_drewN {w w' : World} {B n : Nat} (h : Below B w w') : Below B w (w'.drewN n) := h.trans ⟨rfl, rfl, rfl, Nat.le_refl _, fun _ _ => rfl⟩
theorem own_set {B : Nat} {w : World} {g n c : Nat} {zs : List Int} (h : Own B w (.slice (some ⟨g, 0, none⟩) n c) zs) (j : Nat) (x : Int) (hx : 0 ≤ x ∧ x < 256) : Own B (w.setCell ⟨g, j, none⟩ (.int .u8 x)) (.slice (some ⟨g, 0, none⟩) n c) (zs.set j x) := by
  refine ⟨fun z hz => ?_, by simp, ?_⟩
  · rcases List.mem_or_eq_of_mem_set hz with hz | rfl
    · exact h.1 z hz
    · exact hx
  · rcases h.2.2 with ⟨e0, _⟩ | ⟨g', cap, cur, e1, hb, hg, h1, h2, h3, h4⟩
    · cases e0
    · cases e1
      refine .inr ⟨g, c, cur.setIfInBounds j (.int .u8 x), by simp, hb, heap_set_at hg _, by simpa using h1, h2, by simpa using h3, ?_⟩
      rw [Array.toList_setIfInBounds, List.take_set, List.length_set, h4, List.map_set]
/-- what is read at the front. -/
def told (z : List Int) : List Int × Int × Int := match nextP z with | none => ([], 0, 40) | some (p, u) => (p, (u : Int), 0)
theorem rnext_told (a : Option Addr) (c : Nat) (zs : List Int) (w : World) (h : IsB w (.slice a zs.length c) zs) (hl : zs.length ≤ 1000000) {p : List Int} {u e0 : Int} (ht : told zs = (p, u, e0)) :
    Calls Try.prog 13 #[.slice a zs.length c] w fun e w' => ∃ a' c', e = .returned (.tuple #[.slice a' p.length c', .int .i64 u, .int .i64 e0]) ∧ Own w.heap.size w' (.slice a' p.length c') p ∧ Below w.heap.size w w' := by
  refine (rnext a c zs w h hl).mono ?_
  rintro e w' ⟨hb, ⟨hn, he⟩ | ⟨q, v, a', c', hn, he, ho⟩⟩
  · unfold told at ht; rw [hn] at ht; cases ht
    exact ⟨none, 0, he, own_nil _ _, hb⟩
  · unfold told at ht; rw [hn] at ht; cases ht
    exact ⟨a', c', he, ho, hb⟩
theorem next_told {v : Value} {zs : List Int} {w : World} (h : IsB w v zs) {p : List Int} {u e0 : Int} (ht : told zs = (p, u, e0)) :
    Calls Try.prog 14 #[v] w fun e w' => ∃ a' c', e = .returned (.tuple #[.slice a' p.length c', .int .i64 u, .int .i64 e0]) ∧ Own w.heap.size w' (.slice a' p.length c') p ∧ Below w.heap.size w w' := by
  unfold told at ht
  cases hn : nextP zs with
  | none =>
    rw [hn] at ht; cases ht
    refine (next_no h hn).mono ?_
    rintro e w' ⟨he, hb⟩
    exact ⟨none, 0, he, own_nil _ _, hb⟩
  | some y =>
    obtain ⟨q, v⟩ := y
    rw [hn] at ht; cases ht
    exact next_yes h hn
theorem up8 (z : Int) (h : 0 ≤ z ∧ z < 256) : 0 ≤ IntKind.u8.wrap (z + 1) ∧ IntKind.u8.wrap (z + 1) < 256 := by rw [IntKind.wrap_u8']; omega
set_option maxRecDepth 100000 in
set_option maxHeartbeats 4000000 in
theorem walk (v0 : Value) (z0 : List Int) (a1 : Int) (w : World) (h0 : IsB w v0 z0) (h1 : (Lit.int .i64 a1).wf = true) :
    Calls Try.prog 4 #[v0, .int .i64 a1] w fun e w' => e = .returned (.bool true) ∧ Below w.heap.size w w' := by
  obtain ⟨a, c, rfl⟩ := h0.slice
  have hb0 := h0.bound
  simp [Lit.wf, IntKind.min, IntKind.max, IntKind.bits, IntKind.signed] at h1
  by_cases hl : 20000 < z0.length
  · have hl' : (20000 : Int) < (z0.length : Int) := by omega
    clear h0
    refine (callsIn_wide (n := 9)).1 ?_
    refine callsIn_of_wp_marks Try.func4 rfl trivial ?_ rfl
    simp only [Try.ntmps4, List.size_toArray, List.length_cons, List.length_nil, Nat.reduceAdd, Nat.reduceSub, Array.replicate_succ, Array.replicate_zero, List.push_toArray, List.append_toArray, List.nil_append, List.cons_append]
    gi_wp2_with fail
    have hc : ((w.alloc (Obj.cells #[Value.int IntKind.i64 a1] 3)).alloc (Obj.cells #[Value.bool true] 4)).cell? ⟨w.heap.size + 1, 0, none⟩ = some (.bool true) := by
      have := (Boxed.new (w.alloc (Obj.cells #[Value.int IntKind.i64 a1] 3)) 4 (.bool true)).cell
      rwa [World.size_alloc] at this
    refine ⟨.bool true, ?_, rfl, ((Below.refl _ w).alloc (Nat.le_refl _) _).alloc (by simp) _⟩
    simp [results, Try.f4, go_sem, hc]
  have hl' : ¬ (20000 : Int) < (z0.length : Int) := by omega
  obtain ⟨l, r, hR⟩ := reads_any z0.length z0 (Nat.le_refl _) h0.byt
  replace hR := hid hR
  replace h0 := hid h0
  refine (callsIn_wide (n := 9)).1 ?_
  refine callsIn_of_wp_marks Try.func4 rfl trivial ?_ rfl
  simp only [Try.ntmps4, List.size_toArray, List.length_cons, List.length_nil, Nat.reduceAdd, Nat.reduceSub, Array.replicate_succ, Array.replicate_zero, List.push_toArray, List.append_toArray, List.nil_append, List.cons_append]
  gi_wp2_with fail
  obtain ⟨w0, hw0⟩ : ∃ w0, (w.alloc (.cells #[Value.int .i64 a1] 3)).alloc (.cells #[Value.bool false] 4) = w0 := ⟨_, rfl⟩
  have hs0 : w0.heap.size = w.heap.size + 2 := by rw [← hw0]; simp
  have hb0 : Below w.heap.size w w0 := by rw [← hw0]; exact ((Below.refl _ w).alloc (Nat.le_refl _) _).alloc (by simp) _
  have hx0 : Boxed w0 w.heap.size 3 (.int .i64 a1) := by rw [← hw0]; exact (Boxed.new w _ _).alloc _
  have hx1 : Boxed w0 (w.heap.size + 1) 4 (.bool false) := by
    rw [← hw0]
    have := Boxed.new (w.alloc (.cells #[Value.int .i64 a1] 3)) 4 (.bool false)
    rwa [World.size_alloc] at this
  rw [hw0]
  clear hw0
  have hI0 := hid (h0.out.below hb0)
  have B0 := hid hb0
  have hX0 := hid hx0
  have hX1 := hid hx1
  clear hb0 hx0 hx1
  refine ⟨trivial, (callsIn_wide.2 (copy_any _ _ _ hI0.out (by omega))).mono ?_⟩
  rintro e w1 ⟨am, cm, rfl, o1, l1⟩
  have hI1 := hid (hI0.out.below l1)
  have L1 := hid l1
  have O1 := hid o1
  clear o1 l1 hI0
  obtain ⟨wp, U, E, ht⟩ : ∃ wp U E, told z0 = (wp, U, E) := ⟨_, _, _, rfl⟩
  replace ht := hid ht
  gi_wp2_with fail
  refine ⟨trivial, (callsIn_wide.2 (rnext_told _ _ _ _ hI1.out (by omega) ht.out)).mono ?_⟩
  rintro e w2 ⟨aw, cw, rfl, o2, l2⟩
  have L2 := hid (low' L1.out l2)
  have hI2 := hid (hI1.out.below l2)
  have O2 := hid (O1.out.below l2)
  have OW := hid o2
  clear o2 l2 hI1 L1 O1
  gi_wp2_with fail
  gi_loopw [9] (fun tv wr => ∃ t : Nat, t ≤ 2 ∧ tv = .int .i64 (t : Int) ∧ Below w2.heap.size w2 wr) (fun tv _ => 2 - (intOf tv).toNat)
  case atStart => exact ⟨0, by omega, rfl, Below.refl _ _⟩
  case round =>
    obtain ⟨t, ht2, rfl, hbr⟩ := hrel
    have BR := hid hbr
    clear hbr
    by_cases htt : t < 2
    · have htt' : (t : Int) ≤ 1 := by omega
      have hm := hid (next_told (O2.out.isB.below BR.out) ht.out)
      gi_wp2_with fail
      refine ⟨trivial, (callsIn_wide.2 hm.out).mono ?_⟩
      rintro e w3 ⟨ap, cp, rfl, o3, l3⟩
      have B3 := hid (low' BR.out l3)
      have O3 := hid (o3.base BR.out.size)
      have hsm := hid (same_any _ _ _ _ _ O3.out.isB (OW.out.isB.below B3.out))
      clear o3 l3 hm
      gi_wp2_with fail
      refine ⟨trivial, (callsIn_wide.2 hsm.out).mono ?_⟩
      rintro e w4 ⟨rfl, n4, rfl⟩
      have B4 := hid (below_drewN (n := n4) B3.out)
      have O4 : Hid (Own w2.heap.size (w3.drewN n4) (.slice ap wp.length cp) wp) := O3.out.keep fun _ _ => rfl
      clear hsm B3 O3
      have hww : (wp == wp) = true := by simp
      rw [hww]
      generalize w3.drewN n4 = w4 at *
      gi_wp2_with fail
      gi_loopw [13] (fun iv wi => ∃ (i : Nat) (zs : List Int), i ≤ wp.length ∧ iv = .int .i64 (i : Int) ∧ zs.length = wp.length ∧ Own w2.heap.size wi (.slice ap wp.length cp) zs ∧ Below w2.heap.size w2 wi) (fun iv _ => wp.length - (intOf iv).toNat)
      case atStart => exact ⟨0, wp, by omega, rfl, rfl, O4.out, B4.out⟩
      case round =>
        clear O4 B4 BR
        obtain ⟨i, zs, hi, rfl, hzl, oi, bi⟩ := hrel
        replace hzl := hid hzl
        have BI := hid bi
        have OI := hid oi
        clear oi bi
        by_cases hil : i < wp.length
        · have hil' : (i : Int) < (wp.length : Int) := by omega
          obtain ⟨g, rfl, _, k1, k2, k3, k4, hcell, hfz⟩ := OI.out.cell (by omega)
          have hci := hcell i hil
          have hfi := hfz i
          have hzi := hid (OI.out.1 _ (getD_mem zs i (by rw [hzl.out]; exact hil)))
          clear hcell hfz
          generalize zs.getD i 0 = z at *
          have OX := hid (own_set OI.out i _ (up8 z hzi.out))
          have BX := hid (BI.out.setCell (p := ⟨g, i, none⟩) k3 (.int .u8 (IntKind.u8.wrap (z + 1))))
          clear OI BI hzi
          gi_wp2_with fail
          refine ⟨⟨i + 1, zs.set i (IntKind.u8.wrap (z + 1)), by omega, by simp, by simpa using hzl.out, OX.out, BX.out⟩, ?_⟩
          simp [intOf]; omega
        · have hil' : ¬ (i : Int) < (wp.length : Int) := by omega
          gi_wp2
          refine ⟨⟨t + 1, by omega, by simp, BI.out⟩, ?_⟩
          simp [intOf]; omega
    · have htt' : ¬ (t : Int) < 2 := by omega
      clear ht2 htt
      have hIr := hid (hI2.out.below BR.out)
      have OR := hid (O2.out.below BR.out)
      have LR := hid (low' L2.out BR.out)
      clear hI2 O2 L2 BR OW ht
      have hra := hid (rall _ _ _ _ hIr.out (by omega) hR.out)
      gi_wp2_with fail
      refine ⟨trivial, (callsIn_wide.2 hra.out).mono ?_⟩
      rintro e w5 ⟨al, cl, vs, rfl, r5, h5, l5⟩
      have L5 := hid (low' LR.out l5)
      have hI5 := hid (hIr.out.below l5)
      have O5 := hid (OR.out.below l5)
      have P5 := hid (isP_rowO r5 h5)
      clear r5 h5 l5 hra hIr OR LR
      gi_wp2_with fail
      have hb6 : Below w5.heap.size w5 (w5.alloc (.cells #[Value.slice al l.length cl] 33)) := alloc_below _ _
      have bx6 : Boxed (w5.alloc (.cells #[Value.slice al l.length cl] 33)) w5.heap.size 33 (.slice al l.length cl) := Boxed.new w5 _ _
      have hs6 : (w5.alloc (.cells #[Value.slice al l.length cl] 33)).heap.size = w5.heap.size + 1 := by simp
      generalize w5.alloc (.cells #[Value.slice al l.length cl] 33) = w6 at *
      have L6 := hid (low' L5.out hb6)
      have hI6 := hid (hI5.out.below hb6)
      have O6 := hid (O5.out.below hb6)
      have P6 := hid (P5.out.below hb6)
      have BX6 := hid bx6
      have hsz5 : w0.heap.size ≤ w5.heap.size := L5.out.size
      clear hb6 bx6 L5 hI5 O5 P5
      refine ⟨trivial, (callsIn_wide.2 (all_fn _ _ _ O6.out.isB (by omega))).mono ?_⟩
      rintro e w7 ⟨bx, ax, cx, rfl, hbx, o7, hbxl, l7⟩
      have L7 := hid (low' L6.out l7)
      have hI7 := hid (hI6.out.below l7)
      have O7 := hid (O6.out.below l7)
      have P7 := hid (P6.out.below l7)
      have BX7 : Hid (Boxed w7 w5.heap.size 33 (.slice al l.length cl)) := (l7.block _ (by omega)).trans BX6.out
      have HBX := hid hbx
      have OX := hid o7
      have hsz6 : w6.heap.size ≤ w7.heap.size := l7.size
      have henil := eql_nil
      clear l7 L6 hI6 O6 P6 BX6 hbx o7
      gi_wp2_with fail
      refine ⟨trivial, (callsIn_wide.2 (whole_any _ _ _ O7.out.isB hR.out)).mono ?_⟩
      rintro e w8 ⟨rfl, l8⟩
      have L8 := hid (low' L7.out l8)
      have hI8 := hid (hI7.out.below l8)
      have O8 := hid (O7.out.below l8)
      have P8 := hid (P7.out.below l8)
      have BX8 : Hid (Boxed w8 w5.heap.size 33 (.slice al l.length cl)) := (l8.block _ (by omega)).trans BX7.out
      have hbx8 := hid ((l8.cell (p := ⟨bx, 0, none⟩) (World.block_lt_of_cell? w7 ⟨bx, 0, none⟩ HBX.out)).trans HBX.out)
      have OX8 := hid (OX.out.below l8)
      have hsz7 : w7.heap.size ≤ w8.heap.size := l8.size
      clear l8 L7 hI7 O7 P7 BX7 HBX OX henil
      gi_wp2_with fail
      have hll : l.length ≤ 20000 := by
        have h1 := rows_ge l
        have h2 := congrArg List.length hR.out.1
        rw [List.length_append] at h2; omega
      have hbl8 := hid (World.block_lt_of_cell? w8 ⟨bx, 0, none⟩ hbx8.out)
      obtain ⟨W0, hW0⟩ : ∃ W0, w8.alloc (.cells #[Value.int .i64 0] 3) = W0 := ⟨_, rfl⟩
      rw [hW0]
      have hs9 : W0.heap.size = w8.heap.size + 1 := by rw [← hW0]; simp
      have hb9 : Below w8.heap.size w8 W0 := by rw [← hW0]; exact alloc_below _ _
      have bk : Boxed W0 w8.heap.size 3 (.int .i64 0) := by rw [← hW0]; exact Boxed.new w8 _ _
      have hD : ∀ b, dataOf bx (.slice ax z0.length cx) b → b < w8.heap.size := by
        rintro b (rfl | ⟨_, hbb⟩)
        · exact hbl8.out
        · exact (OX8.out.lt hbb).2
      have cbx : W0.cell? ⟨bx, 0, none⟩ = some (.slice ax z0.length cx) := (hb9.cell (p := ⟨bx, 0, none⟩) hbl8.out).trans hbx8.out
      have O9 := OX8.out.below hb9
      have hs5 : w5.heap.size + 1 ≤ w8.heap.size := by omega
      have hs02 : w.heap.size + 2 ≤ w5.heap.size := by omega
      clear hW0
      refine range_law (gf := 29) (lb := #[.pointer (some ⟨bx, 0, none⟩)]) rfl (enters_of Try.func29 (by kernel_rfl) rfl)
        (all_gives W0 bx _ z0 l r cbx O9.isB hR.out) (Below.refl _ _)
        (fun k args V hy => by obtain ⟨_, _, rfl, _⟩ := hy; rfl) (fun k args A r o o' hy hl => clone_put hy hl) (fun k args A r o hy hl ho => clone_far hy hl ho)
        (fun b => b = w8.heap.size) (fun b hb => ⟨by omega, fun hd => by have := hD b hd; omega⟩) (fun b hb => by have := hD b hb; omega)
        (fun k V => Boxed V w8.heap.size 3 (.int .i64 (k : Int)) ∧ Below w8.heap.size w8 V) (fun cd k V => (cd = .exit 4 ∧ (k : Int) = a1) ∧ Boxed V w8.heap.size 3 (.int .i64 (k : Int)) ∧ Below w8.heap.size w8 V)
        (fun k A B hi hb => ⟨(hb.block _ (by omega)).trans hi.1, hi.2.trans (hb.mono (by omega))⟩) (fun cd k A B hi hb => ⟨hi.1, (hb.block _ (by omega)).trans hi.2.1, hi.2.2.trans (hb.mono (by omega))⟩) ⟨bk, hb9⟩
        (fun args => { tmps := #[Value.slice a z0.length c, Value.int IntKind.i64 a1, undef, Value.pointer (some ⟨w.heap.size, 0, none⟩), Value.pointer (some ⟨w.heap.size + 1, 0, none⟩), Value.slice am z0.length cm, Value.slice aw wp.length cw, Value.int IntKind.i64 U, Value.int IntKind.i64 E, Value.int IntKind.i64 (t : Int), u10, u11, u12, u13, Value.pointer (some ⟨w5.heap.size, 0, none⟩), Value.int IntKind.i64 ((rows l).length : Int), Value.func (Fn.func 29) #[] #[Value.pointer (some ⟨bx, 0, none⟩)], Value.pointer (some ⟨w8.heap.size, 0, none⟩), args.getD 0 undef, undef, Value.slice a z0.length c, Value.int IntKind.i64 (z0.length : Int), Value.bool false, Value.slice a z0.length c, Value.slice am z0.length cm, Value.tuple #[Value.slice aw wp.length cw, Value.int IntKind.i64 U, Value.int IntKind.i64 E], Value.slice a z0.length c, Value.tuple #[Value.slice aw wp.length cw, Value.int IntKind.i64 U, Value.int IntKind.i64 E], Value.slice aw wp.length cw, Value.int IntKind.i64 U, Value.int IntKind.i64 E, Value.int IntKind.i64 (t : Int), Value.bool false, u33, u34, u35, u36, u37, u38, u39, u40, u41, u42, u43, u44, u45, u46, u47, u48, u49, u50, u51, u52, u53, u54, u55, u56, u57, u58, u59, u60, u61, u62, u63, u64, u65, u66, Value.tuple #[Value.slice al l.length cl, Value.int IntKind.i64 ((rows l).length : Int)], Value.slice a z0.length c, Value.tuple #[Value.slice al l.length cl, Value.int IntKind.i64 ((rows l).length : Int)], Value.slice al l.length cl, Value.int IntKind.i64 ((rows l).length : Int), Value.slice am z0.length cm, Value.func (Fn.func 29) #[] #[Value.pointer (some ⟨bx, 0, none⟩)], Value.func (Fn.func 29) #[] #[Value.pointer (some ⟨bx, 0, none⟩)], Value.bool false, Value.bool false, Value.slice am z0.length cm, Value.int IntKind.i64 ((rows l).length : Int), Value.int IntKind.i64 ((rows l).length : Int), Value.bool false, Value.bool false, Value.func (Fn.func 29) #[] #[Value.pointer (some ⟨bx, 0, none⟩)], args.getD 0 undef, undef, undef, undef, undef, undef, undef, undef, undef, undef, undef, undef, undef, undef, undef, undef, undef, undef, undef, undef, undef, undef, undef, undef, undef, undef, undef, undef, undef, undef, undef, undef, undef, undef, undef, undef, undef, undef, undef, undef, undef, undef, undef, undef, undef], defers := [] }) ?assign ?body ?done ?stop
      case assign =>
        rintro fu l1 k args V K ⟨a2, d2, rfl, _⟩ hK
        gi_wp2
        exact hK
      case stop =>
        rintro B cd k V hB hkm ⟨⟨rfl, hka⟩, bk, hBV⟩ hK
        rw [hka] at bk
        clear hka
        have bl : Boxed V w5.heap.size 33 (.slice al l.length cl) := (hBV.block _ (by omega)).trans BX8.out
        have bs : Boxed V w.heap.size 3 (.int .i64 a1) := (hBV.block _ (by omega)).trans ((L8.out.block _ (by omega)).trans hX0.out)
        have br : Boxed V (w.heap.size + 1) 4 (.bool false) := (hBV.block _ (by omega)).trans ((L8.out.block _ (by omega)).trans hX1.out)
        have hc1 := bk.cell
        have hc2 := bl.cell
        have hc3 := bs.cell
        have hc4 := br.cell
        have hf4 := br.frozen
        have hsm := hid (same_any _ _ _ _ _ (O8.out.isB.below hBV) (hI8.out.below hBV))
        have B8 := hid (hBV)
        have BK := hid bk
        have BL := hid bl
        have BS := hid bs
        have BR := hid br
        clear bk bl bs br
        by_cases hq : a1 = (l.length : Int)
        · have hq' : (a1 == (l.length : Int)) = true := by simpa using hq
          replace hq := hid hq
          gi_wp2_with fail
          refine ⟨trivial, (callsIn_wide.2 hsm.out).mono ?_⟩
          rintro e V2 ⟨rfl, n, rfl⟩
          have hzz : (z0 == z0) = true := by simp
          rw [hzz]
          have br2 : Boxed (V.drewN n) (w.heap.size + 1) 4 (.bool false) := BR.out
          have hK2 : (V.drewN n).heap[B]? = some (.deferred (some [])) := hK
          have hB2 := hid (below_drewN (n := n) B8.out)
          clear hsm hK hc1 hc2 hc3 hc4 hf4 B8 hzz
          generalize V.drewN n = V2 at *
          have hc4 := br2.cell
          have hf4 := br2.frozen
          gi_wp2
          have hK' : (V2.setCell ⟨w.heap.size + 1, 0, none⟩ (.bool true)).heap[B]? = some (.deferred (some [])) := (heap_set _ _ _ _ _ (by omega)).trans hK2
          refine ⟨by simp, .inl ⟨_, _, rfl, run_takeDeferred hK', ?_⟩⟩
          have hc5 : ((V2.setCell ⟨w.heap.size + 1, 0, none⟩ (.bool true)).putObj B (.deferred none)).cell? ⟨w.heap.size + 1, 0, none⟩ = some (.bool true) := (cell_block (World.putObj_heap_other (by omega))).trans (br2.set (.bool true)).cell
          have hLow : Below w.heap.size w V2 := (B0.out.trans (L8.out.mono (by omega))).trans (hB2.out.mono (by omega))
          refine ⟨.bool true, ?_, rfl, (hLow.setCell (p := ⟨w.heap.size + 1, 0, none⟩) (by simp) _).trans (below_put _ _ _ (by omega))⟩
          simp [results, Try.f4, go_sem, hc5]
        · have hq' : (a1 == (l.length : Int)) = false := by simpa using hq
          replace hq := hid hq
          gi_wp2_with fail
          refine ⟨trivial, (callsIn_wide.2 hsm.out).mono ?_⟩
          rintro e V2 ⟨rfl, n, rfl⟩
          have hzz : (z0 == z0) = true := by simp
          rw [hzz]
          have br2 : Boxed (V.drewN n) (w.heap.size + 1) 4 (.bool false) := BR.out
          have hK2 : (V.drewN n).heap[B]? = some (.deferred (some [])) := hK
          have hB2 := hid (below_drewN (n := n) B8.out)
          clear hsm hK hc1 hc2 hc3 hc4 hf4 B8 hzz
          generalize V.drewN n = V2 at *
          have hc4 := br2.cell
          have hf4 := br2.frozen
          gi_wp2
          have hK' : (V2.setCell ⟨w.heap.size + 1, 0, none⟩ (.bool true)).heap[B]? = some (.deferred (some [])) := (heap_set _ _ _ _ _ (by omega)).trans hK2
          refine ⟨by simp, .inl ⟨_, _, rfl, run_takeDeferred hK', ?_⟩⟩
          have hc5 : ((V2.setCell ⟨w.heap.size + 1, 0, none⟩ (.bool true)).putObj B (.deferred none)).cell? ⟨w.heap.size + 1, 0, none⟩ = some (.bool true) := (cell_block (World.putObj_heap_other (by omega))).trans (br2.set (.bool true)).cell
          have hLow : Below w.heap.size w V2 := (B0.out.trans (L8.out.mono (by omega))).trans (hB2.out.mono (by omega))
          refine ⟨.bool true, ?_, rfl, (hLow.setCell (p := ⟨w.heap.size + 1, 0, none⟩) (by simp) _).trans (below_put _ _ _ (by omega))⟩
          simp [results, Try.f4, go_sem, hc5]
      case done =>
        rintro B V hB ⟨bk, hBV⟩ hK
        have bl : Boxed V w5.heap.size 33 (.slice al l.length cl) := (hBV.block _ (by omega)).trans BX8.out
        have bs : Boxed V w.heap.size 3 (.int .i64 a1) := (hBV.block _ (by omega)).trans ((L8.out.block _ (by omega)).trans hX0.out)
        have br : Boxed V (w.heap.size + 1) 4 (.bool false) := (hBV.block _ (by omega)).trans ((L8.out.block _ (by omega)).trans hX1.out)
        have hc1 := bk.cell
        have hc2 := bl.cell
        have hc3 := bs.cell
        have hc4 := br.cell
        have hf4 := br.frozen
        have hsm := hid (same_any _ _ _ _ _ (O8.out.isB.below hBV) (hI8.out.below hBV))
        have B8 := hid (hBV)
        have BK := hid bk
        have BL := hid bl
        have BS := hid bs
        have BR := hid br
        clear bk bl bs br
        gi_wp2_with fail
        refine ⟨trivial, (callsIn_wide.2 hsm.out).mono ?_⟩
        rintro e V2 ⟨rfl, n, rfl⟩
        have hzz : (z0 == z0) = true := by simp
        rw [hzz]
        have br2 : Boxed (V.drewN n) (w.heap.size + 1) 4 (.bool false) := BR.out
        have hK2 : (V.drewN n).heap[B]? = some (.deferred (some [])) := hK
        have hB2 := hid (below_drewN (n := n) B8.out)
        clear hsm hK hc1 hc2 hc3 hc4 hf4 B8 hzz
        generalize V.drewN n = V2 at *
        have hc4 := br2.cell
        have hf4 := br2.frozen
        gi_wp2
        have hK' : (V2.setCell ⟨w.heap.size + 1, 0, none⟩ (.bool true)).heap[B]? = some (.deferred (some [])) := (heap_set _ _ _ _ _ (by omega)).trans hK2
        refine ⟨by simp, .inl ⟨_, _, rfl, run_takeDeferred hK', ?_⟩⟩
        have hc5 : ((V2.setCell ⟨w.heap.size + 1, 0, none⟩ (.bool true)).putObj B (.deferred none)).cell? ⟨w.heap.size + 1, 0, none⟩ = some (.bool true) := (cell_block (World.putObj_heap_other (by omega))).trans (br2.set (.bool true)).cell
        have hLow : Below w.heap.size w V2 := (B0.out.trans (L8.out.mono (by omega))).trans (hB2.out.mono (by omega))
        refine ⟨.bool true, ?_, rfl, (hLow.setCell (p := ⟨w.heap.size + 1, 0, none⟩) (by simp) _).trans (below_put _ _ _ (by omega))⟩
        simp [results, Try.f4, go_sem, hc5]
      case body =>
        rintro fu l1 k args V hk hsz ⟨bk, hBV⟩ ⟨a2, d2, rfl, o2⟩
        have hk' : (k : Int) < (l.length : Int) := by omega
        have hk2 : (k : Int) ≤ 20000 := by omega
        obtain ⟨lb, lo, a3, d3, hal, hcell, hB3⟩ := (P8.out.below hBV).at k hk
        subst hal
        have bl : Boxed V w5.heap.size 33 (.slice (some ⟨lb, lo, none⟩) l.length cl) := (hBV.block _ (by omega)).trans BX8.out
        have hc1 := bk.cell
        have hf1 := bk.frozen
        have hc2 := bl.cell
        have hsm := hid (same_any _ _ _ _ _ o2.isB hB3)
        have OV := hid o2
        clear o2 hB3 bl
        generalize l.getD k [] = p at *
        gi_wp2_with fail
        refine ⟨trivial, (fun h => by cases h), (CallsIn.inRound l1 (callsIn_wide.2 hsm.out)).mono ?_⟩
        rintro e V2 ⟨rfl, n, rfl⟩
        have OV2 : Hid (Own W0.heap.size (V.drewN n) (.slice a2 p.length d2) p) := OV.out.keep fun _ _ => rfl
        have KV2 : Hid (Kept (blockOf #[.slice a2 p.length d2]) V (V.drewN n)) := kept_of_below (below_drewN (Below.refl _ _))
        clear hsm hc1 hf1 hc2 hcell
        have hpp : (p == p) = true := by simp
        rw [hpp]
        generalize V.drewN n = V2 at *
        gi_wp2_with fail
        gi_loopw [19] (fun iv wi => ∃ (i : Nat) (zs : List Int), i ≤ p.length ∧ iv = .int .i64 (i : Int) ∧ zs.length = p.length ∧ Own W0.heap.size wi (.slice a2 p.length d2) zs ∧ Kept (blockOf #[.slice a2 p.length d2]) V wi) (fun iv _ => p.length - (intOf iv).toNat)
        case atStart => exact ⟨0, p, by omega, rfl, rfl, OV2.out, KV2.out⟩
        case round =>
          clear OV2 KV2
          obtain ⟨i, zs, hi, rfl, hzl, oi, ki⟩ := hrel
          replace hzl := hid hzl
          have KI := hid ki
          have OI := hid oi
          clear oi ki
          by_cases hil : i < p.length
          · have hil' : (i : Int) < (p.length : Int) := by omega
            obtain ⟨g, rfl, _, k1, k2, k3, k4, hcell, hfz⟩ := OI.out.cell (by omega)
            have hci := hcell i hil
            have hfi := hfz i
            have hzi := hid (OI.out.1 _ (getD_mem zs i (by rw [hzl.out]; exact hil)))
            clear hcell hfz
            generalize zs.getD i 0 = z at *
            have OX := hid (own_set OI.out i _ (up8 z hzi.out))
            have KX : Hid (Kept (blockOf #[.slice (some ⟨g, 0, none⟩) p.length d2]) V (wr.setCell ⟨g, i, none⟩ (.int .u8 (IntKind.u8.wrap (z + 1))))) := KI.out.trans (F' := fun b => b = g) ⟨rfl, rfl, rfl, by simp [World.setCell], fun j _ hj => heap_set _ _ _ _ _ hj⟩ (fun b hb => .inl (by rw [hb]; rfl))
            clear OI KI hzi
            gi_wp2_with fail
            refine ⟨⟨i + 1, zs.set i (IntKind.u8.wrap (z + 1)), by omega, by simp, by simpa using hzl.out, OX.out, KX.out⟩, ?_⟩
            simp [intOf]; omega
          · have hil' : ¬ (i : Int) < (p.length : Int) := by omega
            have hfar : ∀ b, blockOf #[.slice a2 p.length d2] b → w8.heap.size + 1 ≤ b := fun b hb => by
              have := (OV.out.lt hb).1
              omega
            have bW : Below (w8.heap.size + 1) V wr := KI.out.low (by omega) hfar
            have bk3 : Boxed wr w8.heap.size 3 (.int .i64 (k : Int)) := (bW.block _ (by omega)).trans bk
            have hB3 := hid (hBV.trans (bW.mono (by omega)))
            have bs : Boxed wr w.heap.size 3 (.int .i64 a1) := (hB3.out.block _ (by omega)).trans ((L8.out.block _ (by omega)).trans hX0.out)
            have bk4 := hid (bk3.set (.int .i64 ((k : Int) + 1)))
            have hkk : Hid (((k + 1 : Nat) : Int) = (k : Int) + 1) := by show ((k + 1 : Nat) : Int) = (k : Int) + 1; omega
            have bs4 := bs.other (by omega : w.heap.size ≠ w8.heap.size) (.int .i64 ((k : Int) + 1))
            have B4 : Hid (Below w8.heap.size w8 (wr.setCell ⟨w8.heap.size, 0, none⟩ (.int .i64 ((k : Int) + 1)))) := hB3.out.setCell (p := ⟨w8.heap.size, 0, none⟩) (Nat.le_refl _) _
            have K4 : Hid (Kept (fun b => b = w8.heap.size ∨ blockOf #[.slice a2 p.length d2] b) V (wr.setCell ⟨w8.heap.size, 0, none⟩ (.int .i64 ((k : Int) + 1)))) := (KI.out.mono (fun b _ hb => .inr hb)).trans (F' := fun b => b = w8.heap.size) ⟨rfl, rfl, rfl, by simp [World.setCell], fun j _ hj => heap_set _ _ _ _ _ hj⟩ (fun b hb => .inl (.inl hb))
            have hc1 := bk3.cell
            have hf1 := bk3.frozen
            have hc3 := bs.cell
            have hc4 := bk4.out.cell
            have hc5 := bs4.cell
            clear bW bk3 bs hfar bs4 hB3
            by_cases hst : (k : Int) + 1 = a1
            · have hst' : ((k : Int) + 1 == a1) = true := by simpa using hst
              replace hst := hid hst
              gi_wp2
              refine ⟨K4.out, ⟨rfl, by rw [hkk.out]; exact hst.out⟩, ?_, B4.out⟩
              rw [hkk.out]; exact bk4.out
            · have hst' : ((k : Int) + 1 == a1) = false := by simpa using hst
              gi_wp2
              refine ⟨K4.out, ?_, B4.out⟩
              rw [hkk.out]; exact bk4.out

theorem own : ownKnob Try.prog.godebug = none := by kernel_rfl
theorem laidOut : laidOutB Try.prog = true := by kernel_rfl

set_option maxRecDepth 100000 in
theorem lifted (os : Os) (started : os.Started) (H : Type) (enc : TypeId × Value → H) :
    ReturnsInHanded {} Try.checked os 4 .any (Rows.frameReadsSpec.pre6 enc Try.prog Try.f4 Rows.frameReadsRow.domain false) (Rows.frameReadsSpec.post enc Try.prog Try.f4 false true false false) := by
  refine returnsInHanded_of_change (C := Try.checked) own started (by kernel_rfl) Try.func4
    (ChangeSpec.witness6 (enc := enc) (C := Try.checked) false ⟨#[], #[.slice none 0 0, .int .i64 0], []⟩ 8 (by kernel_rfl) (by kernel_rfl) (by kernel_rfl) (by kernel_rfl)) ?_
  intro W base args ds gs before hval0 hW hcnd _
  have hval : ∀ (j : Nat) t v, Try.f4.params[j]? = some t → args[j]? = some v → Value.okWide Try.prog W .any base t v := hval0
  have hW' := hW
  obtain ⟨p, q, hA0, hV, rfl, hfz, hnd⟩ := hW
  have hA : DataW.TrodAll enc Try.prog W 0 (fun _ => true) true Try.f4.params.toList args.toList ds p := hA0
  rw [Try.params4] at hA hval
  obtain ⟨v0, vs0, d0, ds0, p0, q0, hargs, rfl, rfl, h0, r0⟩ := trodAll_cons hA
  obtain ⟨v1, vs1, d1, ds1, p1, q1, rfl, rfl, rfl, h1, r1⟩ := trodAll_cons r0
  obtain ⟨rfl, rfl, rfl⟩ := trodAll_nil r1
  obtain rfl : args = #[v0, v1] := by cases args; simp_all
  obtain ⟨rfl, rfl⟩ := trodVars_none hV
  have k0 := h0
  have lt0 : ∀ x ∈ p0, x.block < W.heap.size := by obtain ⟨m, hm⟩ := k0; exact DataW.trod_lt m _ _ _ hm
  obtain ⟨z0, w0⟩ := open_bytes Try.underlying22 Try.underlying5 (by kernel_rfl) (hval 0 22 v0 rfl rfl) h0
  obtain ⟨a1, rfl, rfl, rfl, w1⟩ := open_int Try.underlying3 (hval 1 3 v1 rfl rfl) h1
  clear hA0 hval0
  refine (walk v0 z0 a1 W w0 w1).mono fun e W' ⟨he, bel⟩ => ?_
  subst he
  exact ⟨_, rfl, _, _, _, [], _, [], hW', trodAll_mk1 (shut_bool Try.underlying4 _), (trodAll_cons_mk (Below.trod laidOut (by kernel_rfl) (of_decide_eq_true (by kernel_rfl)) k0 bel lt0) (trodAll_cons_mk (shut_int Try.underlying3 w1) trodAll_mk0)), rfl, bel.frame _, fun h => by cases h⟩

theorem over : Rows.frameReadsRow.holds Try.pinned (OpenSpec.ofChange Rows.frameReadsSpec) :=
  OpenClaim.holds_of_wide 4 Try.f4 rfl rfl rfl rfl rfl rfl rfl ⟨rfl, rfl, rfl, rfl, rfl⟩ rfl rfl rfl rfl rfl (by kernel_rfl) Try.func4 (by kernel_rfl)
    (of_decide_eq_true (by kernel_rfl)) (by unfold Func.isWrapper; first | (rw [if_pos (by decide +kernel)]; kernel_rfl) | (rw [if_neg (by decide +kernel)]; exact ⟨rfl, rfl⟩))
    (fun os started H enc _ => lifted os started H enc)

theorem proved : Rows.FrameReadsSaid := over
#print axioms proved

end Go.Proofs.Ytffopkpbekjanaa.frameReads
