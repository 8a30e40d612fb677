/- Contract of the statements' own tells: just the records that are there are told. -/
import Derived.Test.YtffopkpbekjanaaAl
namespace Go.Proofs.Ytffopkpbekjanaa
open Go.RowKit Go.Shelf
attribute [local go_sem] Oper.semAt_some

theorem clone_put {B : Nat} {l : List (List Int)} {k : Nat} {args : Array Value} {A : World} {r : Nat} {o : Loop} {o' : Obj} (h : cloneOf B l k args A) (hr : A.heap[r]? = some (.loop o)) : cloneOf B l k args (A.putObj r o') := by
  obtain ⟨a, d, h1, h2⟩ := h
  refine ⟨a, d, h1, h2.keep fun b hb => World.putObj_heap_other ?_⟩
  rintro rfl
  rcases h2.form with ⟨e, _⟩ | ⟨g, c, cur, e, _, _, _, h3, _⟩
  · rw [e] at hb; cases hb
  · rw [e] at hb; cases hb; rw [hr] at h3; cases h3
theorem clone_far {B : Nat} {l : List (List Int)} {k : Nat} {args : Array Value} {A : World} {r : Nat} {o : Obj} (h : cloneOf B l k args A) (hr : A.heap[r]? = some o) (ho : o.isCells = false) : ¬ blockOf args r := by
  obtain ⟨a, d, rfl, h2⟩ := h
  intro hb
  rcases h2.form with ⟨e, _⟩ | ⟨g, c, cur, e, _, _, _, h3, _⟩
  · change (Value.slice _ _ _).ownBlock = _ at hb; rw [e] at hb; cases hb
  · change (Value.slice _ _ _).ownBlock = _ at hb; rw [e] at hb; cases hb; rw [hr] at h3; cases h3; cases ho
theorem eqIn_nil (w : World) (d : Nat) (f : Fn) (cp lb : Array Value) : (Op.equalIn (d + 1) 37 (.func f cp lb) .nilFunc).run Try.prog w = .ok false w := by
  simp [Op.equalIn, run_underlying Try.underlying37]
theorem eql_nil (w : World) (f : Fn) (cp lb : Array Value) : (binOp .eql 37 (.func f cp lb) .nilFunc).run Try.prog w = .ok (.bool false) w := by
  simp only [binOp]
  simp [Op.equal, Op.maxDepth, eqIn_nil w 9999]
set_option maxRecDepth 100000 in
set_option maxHeartbeats 4000000 in
theorem tells_yes (vb vl : Value) (zs : List Int) (l : List (List Int)) (r : List Int) (w : World) (hb : IsB w vb zs) (hl : IsP w vl l) (hr : Reads zs l r) (hzl : zs.length ≤ 1000000) :
    Calls Try.prog 21 #[vb, vl, .int .i64 ((rows l).length : Int)] w fun e w' => e = .returned (.bool true) ∧ Below w.heap.size w w' := by
  obtain ⟨ab, cb, rfl⟩ := hb.slice
  obtain ⟨al, cl, rfl⟩ : ∃ a c, vl = .slice a l.length c := by obtain ⟨_, a, c, e, _⟩ := hl; exact ⟨a, c, e⟩
  have hlm := hl.1
  unfold maxLen at hlm
  replace hb := hid hb
  replace hl := hid hl
  replace hr := hid hr
  refine (callsIn_wide (n := 9)).1 ?_
  refine callsIn_of_wp_marks Try.func21 rfl trivial ?_ rfl
  simp only [Try.ntmps21, List.size_toArray, List.length_cons, List.length_nil, Nat.reduceAdd, Nat.reduceSub, Array.replicate_succ, Array.replicate_zero, List.push_toArray, List.append_toArray, List.nil_append, List.cons_append]
  gi_wp2_with fail
  refine ⟨trivial, (callsIn_wide.2 (all_fn _ _ _ (hb.out.below (((Below.refl _ w).alloc (Nat.le_refl _) _).alloc (by simp) _)) (by omega))).mono ?_⟩
  rintro e w1 ⟨bx, a1, c1, rfl, hbx, o1, hbxl, l1⟩
  obtain ⟨w0, hw0⟩ : ∃ w0, (w.alloc (.cells #[Value.slice al l.length cl] 33)).alloc (.cells #[Value.bool false] 4) = w0 := ⟨_, rfl⟩
  rw [hw0] at o1 hbxl l1
  have hs0 : w0.heap.size = w.heap.size + 2 := by rw [← hw0]; simp
  have hb0 : Below w.heap.size w w0 := by rw [← hw0]; exact ((Below.refl _ w).alloc (Nat.le_refl _) _).alloc (by simp) _
  have hx0 : Boxed w0 w.heap.size 33 (.slice al l.length cl) := by rw [← hw0]; exact (Boxed.new w _ _).alloc _
  have hx1 : Boxed w0 (w.heap.size + 1) 4 (.bool false) := by
    rw [← hw0]
    have := Boxed.new (w.alloc (.cells #[Value.slice al l.length cl] 33)) 4 (.bool false)
    rwa [World.size_alloc] at this
  clear hw0
  have henil := eql_nil
  have hb1 := hid (hb.out.below (hb0.trans (l1.mono hb0.size)))
  have L1 := hid l1
  have O1 := hid o1
  have HBX := hid hbx
  clear o1 l1 hbx
  gi_wp2_with fail
  refine ⟨trivial, (callsIn_wide.2 (whole_any _ _ _ hb1.out hr.out)).mono ?_⟩
  rintro e w2 ⟨rfl, l2⟩
  have L2 := hid (low' L1.out l2)
  have O2 := hid (O1.out.below l2)
  have hbx2 := hid ((l2.cell (p := ⟨bx, 0, none⟩) (World.block_lt_of_cell? w1 ⟨bx, 0, none⟩ HBX.out)).trans HBX.out)
  have hbl2 := hid (World.block_lt_of_cell? w2 ⟨bx, 0, none⟩ hbx2.out)
  clear l2 L1 O1 HBX hb1 henil
  gi_wp2_with fail
  obtain ⟨W0, hW0⟩ : ∃ W0, w2.alloc (.cells #[Value.int .i64 0] 3) = W0 := ⟨_, rfl⟩
  rw [hW0]
  have hsz2 : w.heap.size + 2 ≤ w2.heap.size := by have := L2.out.size; omega
  have hs3 : W0.heap.size = w2.heap.size + 1 := by rw [← hW0]; simp
  have hb3 : Below w2.heap.size w2 W0 := by rw [← hW0]; exact alloc_below _ _
  have hbW : Below w.heap.size w W0 := by rw [← hW0]; exact low' (low' hb0 L2.out) (alloc_below _ _)
  have bk : Boxed W0 w2.heap.size 3 (.int .i64 0) := by rw [← hW0]; exact Boxed.new w2 _ _
  have bl : Boxed W0 w.heap.size 33 (.slice al l.length cl) := (hb3.block _ (by omega)).trans ((L2.out.block _ (by omega)).trans hx0)
  have br : Boxed W0 (w.heap.size + 1) 4 (.bool false) := (hb3.block _ (by omega)).trans ((L2.out.block _ (by omega)).trans hx1)
  have hD : ∀ b, dataOf bx (.slice a1 zs.length c1) b → w.heap.size + 2 ≤ b ∧ b < w2.heap.size := by
    rintro b (rfl | ⟨_, hbb⟩)
    · exact ⟨by omega, hbl2.out⟩
    · have := O2.out.lt hbb; omega
  have cbx : W0.cell? ⟨bx, 0, none⟩ = some (.slice a1 zs.length c1) := (hb3.cell (p := ⟨bx, 0, none⟩) hbl2.out).trans hbx2.out
  have O3 := O2.out.below hb3
  clear hW0 hx0 hx1
  refine range_law (gf := 29) (lb := #[.pointer (some ⟨bx, 0, none⟩)]) rfl (enters_of Try.func29 (by kernel_rfl) rfl)
    (all_gives W0 bx _ zs l r cbx O3.isB hr.out) (Below.refl _ _)
    (fun k args V hy => by obtain ⟨_, _, rfl, _⟩ := hy; rfl) (fun k args A r o o' hy hl => clone_put hy hl) (fun k args A r o hy hl ho => clone_far hy hl ho)
    (fun b => b = w2.heap.size) (fun b hb => ⟨by omega, fun hd => by have := hD b hd; omega⟩) (fun b hb => by have := hD b hb; omega)
    (fun k V => (Boxed V w2.heap.size 3 (.int .i64 (k : Int)) ∧ Boxed V w.heap.size 33 (.slice al l.length cl) ∧ Boxed V (w.heap.size + 1) 4 (.bool false)) ∧ Below w.heap.size w V) (fun _ _ _ => False)
    (fun k A B hi hb => ⟨⟨(hb.block _ (by omega)).trans hi.1.1, (hb.block _ (by omega)).trans hi.1.2.1, (hb.block _ (by omega)).trans hi.1.2.2⟩, hi.2.trans (hb.mono (by omega))⟩) (fun _ _ _ _ h _ => h) ⟨⟨bk, bl, br⟩, hbW⟩
    (fun args => { tmps := #[.slice ab zs.length cb, .slice al l.length cl, .int .i64 ((rows l).length : Int), undef, .pointer (some ⟨w.heap.size, 0, none⟩), undef, .pointer (some ⟨w.heap.size + 1, 0, none⟩), .func (.func 29) #[] #[.pointer (some ⟨bx, 0, none⟩)], .pointer (some ⟨w2.heap.size, 0, none⟩), args.getD 0 undef, .slice ab zs.length cb, .func (.func 29) #[] #[.pointer (some ⟨bx, 0, none⟩)], .func (.func 29) #[] #[.pointer (some ⟨bx, 0, none⟩)], .bool false, .bool false, .slice ab zs.length cb, .int .i64 ((rows l).length : Int), .int .i64 ((rows l).length : Int), .bool false, .bool false, .func (.func 29) #[] #[.pointer (some ⟨bx, 0, none⟩)], args.getD 0 undef, undef, undef, undef, undef, undef, undef, undef, undef, undef, undef, undef, undef, undef, undef, undef, undef, undef, undef, undef], defers := [] }) ?assign ?body ?done ?stop
  case assign =>
    rintro i l1 k args V K ⟨a2, d2, rfl, _⟩ hK
    gi_wp2
    exact hK
  case stop =>
    rintro B c k V _ _ h _
    exact h.elim
  case done =>
    rintro B V hB ⟨⟨bk, bl, br⟩, hBV⟩ hK
    have hc1 := bk.cell
    have hc2 := bl.cell
    have hc3 := br.cell
    have hf3 := br.frozen
    gi_wp2
    have hK' : (V.setCell ⟨w.heap.size + 1, 0, none⟩ (.bool true)).heap[B]? = some (.deferred (some [])) := (heap_set _ _ _ _ _ (by omega)).trans hK
    refine ⟨by simp, .inl ⟨_, _, rfl, run_takeDeferred hK', ?_⟩⟩
    have hc5 : ((V.setCell ⟨w.heap.size + 1, 0, none⟩ (.bool true)).putObj B (.deferred none)).cell? ⟨w.heap.size + 1, 0, none⟩ = some (.bool true) := (cell_block (World.putObj_heap_other (by omega))).trans (br.set (.bool true)).cell
    refine ⟨.bool true, ?_, rfl, (hBV.setCell (p := ⟨w.heap.size + 1, 0, none⟩) (by simp) _).trans (below_put _ _ _ (by omega))⟩
    simp [results, Try.f21, go_sem, hc5]
  case body =>
    rintro i l1 k args V hk hsz ⟨⟨bk, bl, br⟩, hBV⟩ ⟨a2, d2, rfl, o2⟩
    have hk' : (k : Int) < (l.length : Int) := by omega
    obtain ⟨lb, lo, a3, d3, hal, hcell, hB3⟩ := (hl.out.below hBV).at k hk
    subst hal
    have hc1 := bk.cell
    have hf1 := bk.frozen
    have hc2 := bl.cell
    have hsm := hid (same_any _ _ _ _ _ o2.isB hB3)
    clear o2 hB3
    generalize l.getD k [] = p at *
    gi_wp2_with fail
    refine ⟨trivial, (fun h => by cases h), (CallsIn.inRound l1 (callsIn_wide.2 hsm.out)).mono ?_⟩
    rintro e V2 ⟨rfl, n, rfl⟩
    clear hsm
    gi_wp2
    have bk2 : Boxed (V.drewN n) w2.heap.size 3 (.int .i64 (k : Int)) := bk
    have kd : Below V.heap.size V (V.drewN n) := (Below.refl _ _).trans ⟨rfl, rfl, rfl, Nat.le_refl _, fun _ _ => rfl⟩
    have bl2 : Boxed (V.drewN n) w.heap.size 33 (.slice (some ⟨lb, lo, none⟩) l.length cl) := bl
    have br2 : Boxed (V.drewN n) (w.heap.size + 1) 4 (.bool false) := br
    refine ⟨(kept_of_below kd).trans (F' := fun b => b = w2.heap.size) ⟨rfl, rfl, rfl, by simp [World.setCell], fun j _ hj => heap_set _ _ _ _ _ hj⟩ (fun b hb => .inl (.inl hb)), ⟨?_, bl2.other (by omega) _, br2.other (by omega) _⟩, (low' hBV kd).setCell (p := ⟨w2.heap.size, 0, none⟩) (by show w.heap.size ≤ w2.heap.size; omega) _⟩
    have := bk2.set (.int .i64 ((k : Int) + 1))
    simpa using this
end Go.Proofs.Ytffopkpbekjanaa
