/- Contract of the document's Read, part 4: a bool. -/
import Derived.Test.YthhfahnlcoiblaaQe
namespace Go.Proofs.Ythhfahnlcoiblaa
open Go.RowKit

theorem readP_2 (most : Int) (z : List Int) (at_ : Nat) (hb : Byt z) : readP 2 most (stOf z at_ false) = if at_ < z.length ∧ z.getD at_ 0 ≤ 1 then ({ zeroV 2 with b := z.getD at_ 0 == 1 }, some (z.drop (at_ + 1))) else (zeroV 2, none) := by
  have hd := hb.drop at_
  simp only [stF, readP]
  by_cases h : at_ < z.length
  · have e : z.getD at_ 0 = z[at_] := by simp [List.getD, List.getElem?_eq_getElem h]
    have hz := hb.getD at_ h
    rw [e] at hz ⊢
    rw [List.drop_eq_getElem_cons h] at hd ⊢
    rw [rnum_one _ hd]
    simp only
    by_cases h1 : z[at_] ≤ 1
    · rw [if_pos h1, if_pos ⟨h, h1⟩]
      simp only
      congr 2
      rw [Bool.eq_iff_iff]
      simp
      omega
    · rw [if_neg h1, if_neg (fun x => h1 x.2)]; rfl
  · rw [if_neg (fun x => h x.1)]
    rw [List.drop_of_length_le (by omega)] at hd ⊢
    rw [rnum_one _ hd]
    rfl
set_option maxRecDepth 100000 in
set_option maxHeartbeats 2000000 in
theorem qread_2a {q : Nat} {bs : Value} {z : List Int} {at_ : Nat} (most : Int) (w : World) (h : RefAt w q bs z at_ false) (ha : ¬ at_ < z.length) :
    Calls Try.prog 19 #[ptr q, .int .u8 2, .int .i64 most] w fun e w' => QRead w q bs z at_ false 2 most e w' := by
  have hr : Hid (readP 2 most (stOf z at_ false) = (zeroV 2, none)) := by
    show _ = _
    rw [readP_2 most z at_ h.b.byt, if_neg (fun x => ha x.1)]
  obtain ⟨a, c, rfl⟩ := h.b.slice
  obtain ⟨-, hb1, hb2⟩ := h.b.bound
  have g0 : w.cell? ⟨q, 0, none⟩ = some (.slice a z.length c) := by rw [cell_of h.cell]; rfl
  have g1 : w.cell? ⟨q, 1, none⟩ = some (.int .i64 (at_ : Int)) := by rw [cell_of h.cell]; rfl
  have g2 : w.cell? ⟨q, 2, none⟩ = some (.bool false) := by rw [cell_of h.cell]; rfl
  have gf := fun o => frozen_of h.cell o
  have hs := QSt.first 2 h
  have hlt := hs.lt
  have hd : decide ((z.length : Int) ≤ (at_ : Int)) = true := by simp; omega
  have hd' : (z.length : Int) ≤ (at_ : Int) := by omega
  have hsd := hid (fun n => hs.later (below_drewN (n := n) (Below.refl _ _)))
  clear h hs ha
  unfold ptr at *
  go_enter Try.func19, Try.ntmps19
  go_wp2
  go_quiet (fail)
  have s1 := hsd.out nq
  clear hsd g0 g1 g2 gf
  generalize ((w.alloc (.cells (zcells 0) 29)).alloc (.cells (zcells 2) 29)).drewN nq = w1 at *
  obtain ⟨⟨r0, r1, r2, r3, r4, r5, r6⟩, ⟨c0, c1, c2, c3, c4, c5, c6⟩, fr, fc, ⟨g0, g1, g2⟩, fg⟩ := s1.cells
  replace s1 := hid s1
  go_wp2
  refine bodyPost_ret (v := agg (zeroV 2) (.slice none 0 0)) ?_ rfl (QSt.fin s1.out.fail (kept7 _ _ _ _ _ _ _ _ _) 2 most hr.out (stT _ _) (own_nil _ _))
  simp [results, Try.results19, go_sem, r0, r1, r2, r3, r4, r5, r6]
  rfl
set_option maxRecDepth 100000 in
set_option maxHeartbeats 2000000 in
theorem qread_2b {q : Nat} {bs : Value} {z : List Int} {at_ : Nat} (most : Int) (w : World) (h : RefAt w q bs z at_ false) (ha : at_ < z.length) (hy : ¬ z.getD at_ 0 ≤ 1) :
    Calls Try.prog 19 #[ptr q, .int .u8 2, .int .i64 most] w fun e w' => QRead w q bs z at_ false 2 most e w' := by
  have hr : Hid (readP 2 most (stOf z at_ false) = (zeroV 2, none)) := by
    show _ = _
    rw [readP_2 most z at_ h.b.byt, if_neg (fun x => hy x.2)]
  obtain ⟨a, c, rfl⟩ := h.b.slice
  obtain ⟨-, hb1, hb2⟩ := h.b.bound
  obtain ⟨bb, off, rfl, hcz⟩ := (h.b.at).2.2.2 (by omega)
  have cy := hcz at_ ha
  have hbl := World.block_lt_of_cell? w _ cy
  simp only at hbl
  have g0 : w.cell? ⟨q, 0, none⟩ = some (.slice (some ⟨bb, off, none⟩) z.length c) := by rw [cell_of h.cell]; rfl
  have g1 : w.cell? ⟨q, 1, none⟩ = some (.int .i64 (at_ : Int)) := by rw [cell_of h.cell]; rfl
  have g2 : w.cell? ⟨q, 2, none⟩ = some (.bool false) := by rw [cell_of h.cell]; rfl
  have hs := QSt.first 2 h
  have hlt := hs.lt
  have hd : decide ((z.length : Int) ≤ (at_ : Int)) = false := by simp; omega
  have hdn : decide (z.length ≤ at_) = false := by simp; omega
  have hd' : ¬ (z.length : Int) ≤ (at_ : Int) := by omega
  have hd2 : (at_ : Int) < (z.length : Int) := by omega
  generalize z.getD at_ 0 = y at *
  have hy' : decide (1 < y) = true := by simp; omega
  have hy2 : 1 < y := by omega
  have hsd := hid (fun n => hs.later (below_drewN (n := n) (Below.refl _ _)))
  clear h hs ha hcz
  unfold ptr at *
  go_enter Try.func19, Try.ntmps19
  go_wp2
  go_quiet (fail)
  have s1 := hsd.out nq
  clear hsd g0 g1 g2
  generalize ((w.alloc (.cells (zcells 0) 29)).alloc (.cells (zcells 2) 29)).drewN nq = w1 at *
  obtain ⟨⟨r0, r1, r2, r3, r4, r5, r6⟩, ⟨c0, c1, c2, c3, c4, c5, c6⟩, fr, fc, ⟨g0, g1, g2⟩, fg⟩ := s1.cells
  replace s1 := hid s1
  go_wp2
  refine bodyPost_ret (v := agg (zeroV 2) (.slice none 0 0)) ?_ rfl (QSt.fin s1.out.fail (kept7 _ _ _ _ _ _ _ _ _) 2 most hr.out (stT _ _) (own_nil _ _))
  simp [results, Try.results19, go_sem, r0, r1, r2, r3, r4, r5, r6]
  rfl
theorem QRead.later {w w1 w2 : World} {q : Nat} {bs : Value} {z : List Int} {at_ k : Nat} {fl : Bool} {most : Int} {e : Ending} (h : QRead w q bs z at_ fl k most e w1) (hb : Below w1.heap.size w1 w2) : QRead w q bs z at_ fl k most e w2 := by
  obtain ⟨a, c, at', fl', h1, h2, h3, h4, h5, h6⟩ := h
  exact ⟨a, c, at', fl', h1, h2.below hb, h3, h4, (hb.block q (lt_of_block h5)).trans h5, h6.trans (kept_of_below (F := (· = q)) hb) fun _ hk => .inl hk⟩
theorem QSt.outSet {w w1 : World} {q : Nat} {bs : Value} {z : List Int} {at_ : Nat} {fl : Bool} {kk : Int} (h : QSt w w1 q bs z at_ fl kk) (ti : Int) (t : Nat) (hti : ti = (t : Int)) (ht : t ≤ z.length) (j : Nat) (x v0 v1 v2 v3 v4 v5 v6 : Value) (k : Nat) (most : Int) {at0 : Nat} {y : Vl} {st : St} (hr : readP k most (stOf z at0 false) = (y, st)) (hst : stOf z t fl = st) (hl : y.l = []) :
    QRead w q bs z at0 false k most (.returned (agg y (.slice none 0 0))) (((((((((w1.setCell ⟨w.heap.size + 1, j, none⟩ x).setCell ⟨q, 1, none⟩ (.int .i64 ti)).setCell ⟨w.heap.size, 0, none⟩ v0).setCell ⟨w.heap.size, 1, none⟩ v1).setCell ⟨w.heap.size, 2, none⟩ v2).setCell ⟨w.heap.size, 3, none⟩ v3).setCell ⟨w.heap.size, 4, none⟩ v4).setCell ⟨w.heap.size, 5, none⟩ v5).setCell ⟨w.heap.size, 6, none⟩ v6) := by
  have hlt := h.lt
  have hq := lt_of_block h.ref.cell
  have k0 : Kept (fun k => k = q ∨ Bx w.heap.size k) w1 (((((((((w1.setCell ⟨w.heap.size + 1, j, none⟩ x).setCell ⟨q, 1, none⟩ (.int .i64 ti)).setCell ⟨w.heap.size, 0, none⟩ v0).setCell ⟨w.heap.size, 1, none⟩ v1).setCell ⟨w.heap.size, 2, none⟩ v2).setCell ⟨w.heap.size, 3, none⟩ v3).setCell ⟨w.heap.size, 4, none⟩ v4).setCell ⟨w.heap.size, 5, none⟩ v5).setCell ⟨w.heap.size, 6, none⟩ v6) :=
    (((((((((Kept.refl _ _).set _ _ _ (.inr (.inr rfl))).set _ _ _ (.inl rfl)).set _ _ _ (.inr (.inl rfl))).set _ _ _ (.inr (.inl rfl))).set _ _ _ (.inr (.inl rfl))).set _ _ _ (.inr (.inl rfl))).set _ _ _ (.inr (.inl rfl))).set _ _ _ (.inr (.inl rfl))).set _ _ _ (.inr (.inl rfl))
  subst hti
  refine ⟨none, 0, t, fl, by rw [hr]; simp [hl], by rw [hr]; simp only [hl]; exact own_nil _ _, by rw [hr]; exact hst, ht, ?_, h.kept.trans k0 fun k hk => ?_⟩
  · iterate 7 rw [heap_set _ _ _ _ _ (by omega)]
    have e1 : (w1.setCell ⟨w.heap.size + 1, j, none⟩ x).heap[q]? = _ := (heap_set _ _ _ _ _ (by omega)).trans h.ref.cell
    exact heap_set_at e1 _
  · simp only [Bx] at hk; omega
set_option maxRecDepth 100000 in
set_option maxHeartbeats 4000000 in
theorem qread_2c {q : Nat} {bs : Value} {z : List Int} {at_ : Nat} (most : Int) (w : World) (h : RefAt w q bs z at_ false) (ha : at_ < z.length) (hy : z.getD at_ 0 ≤ 1) :
    Calls Try.prog 19 #[ptr q, .int .u8 2, .int .i64 most] w fun e w' => QRead w q bs z at_ false 2 most e w' := by
  have hr : Hid (readP 2 most (stOf z at_ false) = ({ zeroV 2 with b := z.getD at_ 0 == 1 }, some (z.drop (at_ + 1)))) := by
    show _ = _
    rw [readP_2 most z at_ h.b.byt, if_pos ⟨ha, hy⟩]
  have hfew := h.few
  obtain ⟨a, c, rfl⟩ := h.b.slice
  obtain ⟨-, hb1, hb2⟩ := h.b.bound
  obtain ⟨bb, off, rfl, hcz⟩ := (h.b.at).2.2.2 (by omega)
  have cy := hcz at_ ha
  have hbl := World.block_lt_of_cell? w _ cy
  simp only at hbl
  have hB := hid h.b
  have g0 : w.cell? ⟨q, 0, none⟩ = some (.slice (some ⟨bb, off, none⟩) z.length c) := by rw [cell_of h.cell]; rfl
  have g1 : w.cell? ⟨q, 1, none⟩ = some (.int .i64 (at_ : Int)) := by rw [cell_of h.cell]; rfl
  have g2 : w.cell? ⟨q, 2, none⟩ = some (.bool false) := by rw [cell_of h.cell]; rfl
  have hs := QSt.first 2 h
  have hlt := hs.lt
  have hd : decide ((z.length : Int) ≤ (at_ : Int)) = false := by simp; omega
  have hdn : decide (z.length ≤ at_) = false := by simp; omega
  have hd' : ¬ (z.length : Int) ≤ (at_ : Int) := by omega
  have hd2 : (at_ : Int) < (z.length : Int) := by omega
  have hz1 := hid ha
  have hsd := hid (fun n => hs.later (below_drewN (n := n) (Below.refl _ _)))
  have hcy := hid (fun (W : World) (s1 : QSt w W q (.slice (some ⟨bb, off, none⟩) z.length c) z at_ false 2) => (show W.cell? ⟨bb, off + at_, none⟩ = some (.int .u8 (z.getD at_ 0)) from by
    obtain ⟨b', off', e, hc⟩ := (s1.ref.b.at).2.2.2 (by have := hz1.out; omega)
    cases e
    exact hc at_ hz1.out))
  generalize z.getD at_ 0 = y at *
  have hy' : decide (1 < y) = false := by simp; omega
  have hy2 : ¬ 1 < y := by omega
  clear h hs ha hcz
  unfold ptr at *
  go_enter Try.func19, Try.ntmps19
  go_wp2
  go_quiet (fail)
  have s1 := hsd.out nq
  clear hsd g0 g1 g2 cy
  generalize ((w.alloc (.cells (zcells 0) 29)).alloc (.cells (zcells 2) 29)).drewN nq = w1 at *
  have cy := hcy.out _ s1
  obtain ⟨⟨r0, r1, r2, r3, r4, r5, r6⟩, ⟨c0, c1, c2, c3, c4, c5, c6⟩, fr, fc, ⟨g0, g1, g2⟩, fg⟩ := s1.cells
  replace s1 := hid s1
  clear hcy hB
  go_wp2
  go_region
  all_goals
    go_wp2
    refine bodyPost_ret (v := agg { zeroV 2 with b := y == 1 } (.slice none 0 0)) ?_ rfl (QRead.later (QSt.outSet s1.out _ (at_ + 1) rfl (by have := hz1.out; omega) _ _ _ _ _ _ _ _ _ 2 most hr.out (stF _ _) rfl) (below_drew (Below.refl _ _)))
    simp [results, Try.results19, go_sem, r0, r1, r2, r3, r4, r5, r6]
    rfl
end Go.Proofs.Ythhfahnlcoiblaa
