/- Contract of the document's Read, part 5: bytes, text. -/
import Derived.Test.YthhfahnlcoiblaaQh
namespace Go.Proofs.Ythhfahnlcoiblaa
open Go.RowKit

theorem isB_empty (w : World) (a : Option Addr) (d : Nat) (hd : d ≤ 9223372036854775807) : IsB w (.slice a 0 d) [] := ⟨by simp, byt_nil, a, d, rfl, Nat.zero_le _, by unfold maxLen; omega, .inl rfl⟩
set_option maxRecDepth 100000 in
set_option maxHeartbeats 2000000 in
theorem qread_34n {q : Nat} {bs : Value} {z : List Int} {at_ n j : Nat} (k : Nat) (most : Int) (w : World) (h : RefAt w q bs z at_ false) (hk : k = 3 ∨ k = 4) (hn : numP (z.drop at_) = some (n, j)) (hl : ¬ n ≤ z.length - (at_ + j)) :
    Calls Try.prog 19 #[ptr q, .int .u8 (k : Int), .int .i64 most] w fun e w' => QRead w q bs z at_ false k most e w' := by
  have c2 : w.cell? ⟨q, 2, none⟩ = some (.bool false) := by rw [cell_of h.cell]; rfl
  have hfew := h.few
  have hr : Hid (readP k most (stOf z at_ false) = (zeroV k, none)) := by
    show _ = _
    have hn1 := (numP_some (h.b.byt.drop at_) hn).1
    have hp := rpiece_no hn hn1 (by simp; omega)
    rcases hk with rfl | rfl
    · simp only [stF, readP, hp]; rfl
    · simp only [stF, readP, hp]; rfl
  obtain ⟨a, c, rfl⟩ := h.b.slice
  obtain ⟨-, hb1, hb2⟩ := h.b.bound
  have hs := QSt.first (k : Int) h
  have hc := hid (qnumber _ hs.ref)
  have hlt := hs.lt
  replace hs := hid hs
  replace hn := hid hn
  clear h
  have hk2 : ((k : Int) == 2) = false := by simp; omega
  have hk0 : ((k : Int) == 0) = false := by simp; omega
  have hk1 : ((k : Int) == 1) = false := by simp; omega
  unfold ptr at *
  go_enter Try.func19, Try.ntmps19
  go_wp2_with fail
  refine hc.out.mono ?_
  intro e w1 hq
  rcases hs.out.num hq with ⟨e1, -⟩ | ⟨n', j', e1, rfl, hlt64, hle, s1⟩
  · rw [hn.out] at e1; cases e1
  · rw [hn.out] at e1; cases e1
    obtain ⟨⟨r0, r1, r2, r3, r4, r5, r6⟩, ⟨c0, c1, c2, c3, c4, c5, c6⟩, fr, fc, ⟨g0, g1, g2⟩, fg⟩ := s1.cells
    replace hs := hid (fun m => s1.later (below_drewN (n := m) (Below.refl _ _)))
    clear hc hq s1
    generalize at_ + j = t at *
    obtain ⟨r, hzr⟩ : ∃ r : Nat, (z.length : Int) = (t : Int) + (r : Int) := ⟨z.length - t, by omega⟩
    have e1 : (z.length : Int) - (t : Int) = (r : Int) := by omega
    have hrl : (r : Int) ≤ 20000 := by omega
    have hd : (r : Int) < (n : Int) := by omega
    have hd' : decide ((r : Int) < (n : Int)) = true := by simp; omega
    have hd'' : decide (r < n) = true := by simp; omega
    replace hzr := hid hzr
    rcases hk with rfl | rfl
    · go_wp2
      go_quiet (fail)
      have s2 := hs.out nq
      clear hs r0 r1 r2 r3 r4 r5 r6 c0 c1 c2 c3 c4 c5 c6 fr fc g0 g1 g2 fg
      generalize w1.drewN nq = w2 at *
      obtain ⟨⟨r0, r1, r2, r3, r4, r5, r6⟩, ⟨c0, c1, c2, c3, c4, c5, c6⟩, fr, fc, ⟨g0, g1, g2⟩, fg⟩ := s2.cells
      replace s2 := hid s2
      go_wp2
      refine bodyPost_ret (v := agg (zeroV 3) (.slice none 0 0)) ?_ rfl (QSt.fin s2.out.fail (kept7 _ _ _ _ _ _ _ _ _) 3 most hr.out (stT _ _) (own_nil _ _))
      simp [results, Try.results19, go_sem, r0, r1, r2, r3, r4, r5, r6]
      rfl
    · go_wp2
      go_quiet (fail)
      have s2 := hs.out nq
      clear hs r0 r1 r2 r3 r4 r5 r6 c0 c1 c2 c3 c4 c5 c6 fr fc g0 g1 g2 fg
      generalize w1.drewN nq = w2 at *
      obtain ⟨⟨r0, r1, r2, r3, r4, r5, r6⟩, ⟨c0, c1, c2, c3, c4, c5, c6⟩, fr, fc, ⟨g0, g1, g2⟩, fg⟩ := s2.cells
      replace s2 := hid s2
      go_wp2
      refine bodyPost_ret (v := agg (zeroV 4) (.slice none 0 0)) ?_ rfl (QSt.fin s2.out.fail (kept7 _ _ _ _ _ _ _ _ _) 4 most hr.out (stT _ _) (own_nil _ _))
      simp [results, Try.results19, go_sem, r0, r1, r2, r3, r4, r5, r6]
      rfl
/-- where Read's bytes begin. -/
theorem piece_at {w1 : World} {bb off c : Nat} {z : List Int} (h : IsB w1 (.slice (some ⟨bb, off, none⟩) z.length c) z) (t n : Nat) (htn : t + n ≤ z.length) (o d : Nat) (ho : n = 0 ∨ o = off + t) (hd : n ≤ d) (hd2 : d ≤ 9223372036854775807) : IsB w1 (.slice (some ⟨bb, o, none⟩) n d) ((z.drop t).take n) := by
  by_cases h0 : n = 0
  · subst h0
    simp only [List.take_zero]
    exact isB_empty _ _ _ hd2
  · obtain rfl : o = off + t := by omega
    exact h.part t (t + n) (by omega) htn n d (by omega) hd (by unfold maxLen; omega)
theorem QSt.to {w w1 : World} {q : Nat} {bs : Value} {z : List Int} {at_ : Nat} {fl : Bool} {kk : Int} (h : QSt w w1 q bs z at_ fl kk) (ti : Int) (t : Nat) (hti : ti = (t : Int)) (ht : t ≤ z.length) : QSt w (w1.setCell ⟨q, 1, none⟩ (.int .i64 ti)) q bs z t fl kk := by
  subst hti; exact h.at t ht
theorem QSt.own {w w1 : World} {q : Nat} {bs : Value} {z : List Int} {at_ : Nat} {fl : Bool} {kk : Int} (h : QSt w w1 q bs z at_ fl kk) {v : Value} {zs : List Int} (ho : Own (w.heap.size + 2) w1 v zs) (o : Nat) (x : Value) : Own (w.heap.size + 2) (w1.setCell ⟨q, o, none⟩ x) v zs := by
  have hlt := h.lt
  exact ho.keep fun k hk => heap_set _ _ _ _ _ (by have := (ho.lt hk).1; omega)
theorem QSt.end {w w1 w2 : World} {q : Nat} {bs : Value} {z : List Int} {at_ at0 : Nat} {fl : Bool} {kk : Int} (h : QSt w w1 q bs z at_ fl kk) (k2 : Kept (Bx w.heap.size) w1 w2) (k : Nat) (most : Int) {y : Vl} {st : St} {a : Option Addr} {n c : Nat} (hr : readP k most (stOf z at0 false) = (y, st)) (hst : stOf z at_ fl = st) (hn : y.l.length = n) (ho : Own (w.heap.size + 2) w1 (.slice a n c) y.l) : QRead w q bs z at0 false k most (.returned (agg y (.slice a n c))) w2 := by
  subst hn
  exact h.fin k2 k most hr hst ho
end Go.Proofs.Ythhfahnlcoiblaa
