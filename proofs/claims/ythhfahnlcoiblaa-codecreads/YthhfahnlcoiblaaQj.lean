/- Contract of the document's Read, part 6: bytes that are there. -/
import Derived.Test.YthhfahnlcoiblaaQi
namespace Go.Proofs.Ythhfahnlcoiblaa
open Go.RowKit

set_option maxRecDepth 100000 in
set_option maxHeartbeats 4000000 in
theorem qread_3 {q : Nat} {bs : Value} {z : List Int} {at_ n j : Nat} (most : Int) (w : World) (h : RefAt w q bs z at_ false) (hn : numP (z.drop at_) = some (n, j)) (hl : n ≤ z.length - (at_ + j)) :
    Calls Try.prog 19 #[ptr q, .int .u8 3, .int .i64 most] w fun e w' => QRead w q bs z at_ false 3 most e w' := by
  have c2 : w.cell? ⟨q, 2, none⟩ = some (.bool false) := by rw [cell_of h.cell]; rfl
  have hfew := h.few
  have hn1 := (numP_some (h.b.byt.drop at_) hn).1
  have hj := (numP_len (h.b.byt.drop at_) hn).1
  have hr : Hid (readP 3 most (stOf z at_ false) = ({ zeroV 3 with l := (z.drop (at_ + j)).take n }, some (z.drop (at_ + j + n)))) := by
    show _ = _
    have hp := rpiece_ok hn hn1 (by simp; omega)
    rw [drop2, drop2] at hp
    simp only [stF, readP, hp]
  obtain ⟨a, c, rfl⟩ := h.b.slice
  obtain ⟨-, hb1, hb2⟩ := h.b.bound
  have hs := QSt.first 3 h
  have hc := hid (qnumber _ hs.ref)
  have hlt := hs.lt
  replace hs := hid hs
  replace hn := hid hn
  clear h
  unfold ptr at *
  go_enter Try.func19, Try.ntmps19
  go_wp2_with fail
  refine hc.out.mono ?_
  intro e w1 hq
  rcases hs.out.num hq with ⟨e1, -⟩ | ⟨n', j', e1, rfl, hlt64, hle, s1⟩
  · rw [hn.out] at e1; cases e1
  · rw [hn.out] at e1; cases e1
    obtain ⟨⟨r0, r1, r2, r3, r4, r5, r6⟩, ⟨c0, c1, c2, c3, c4, c5, c6⟩, fr, fc, ⟨g0, g1, g2⟩, fg⟩ := s1.cells
    replace hs := hid (fun m => s1.later (below_drewN (n := m) (Below.refl _ _)))
    clear hc hq s1
    have ht0 : 0 < at_ + j := by omega
    generalize at_ + j = t at *
    obtain ⟨r, hzr⟩ : ∃ r : Nat, (z.length : Int) = (t : Int) + (r : Int) := ⟨z.length - t, by omega⟩
    have e1 : (z.length : Int) - (t : Int) = (r : Int) := by omega
    have hrl : (r : Int) ≤ 20000 := by omega
    have hd : ¬ (r : Int) < (n : Int) := by omega
    have hd' : decide ((r : Int) < (n : Int)) = false := by simp; omega
    have hd'' : decide (r < n) = false := by simp; omega
    replace hzr := hid hzr
    go_wp2
    go_quiet (fail)
    have s2 := hs.out nq
    clear hs r0 r1 r2 r3 r4 r5 r6 c0 c1 c2 c3 c4 c5 c6 fr fc g0 g1 g2 fg
    generalize w1.drewN nq = w2 at *
    obtain ⟨-, -, -, -, ⟨g0, g1, -⟩, -⟩ := s2.cells
    obtain ⟨bb, off, rfl, -⟩ := (s2.ref.b.at).2.2.2 (by omega)
    have htn : t + n ≤ z.length := by omega
    have hpl : Hid (((z.drop t).take n).length = n) := by show _ = _; simp; omega
    have hcp := hid (fun (W : World) (e : W.heap = w2.heap) (o d : Nat) (ho : n = 0 ∨ o = off + t) (hd : n ≤ d) (hd2 : d ≤ 9223372036854775807) => copy_any _ _ W (piece_at (s2.ref.b.heap e) t n htn o d ho hd hd2) (by rw [hpl.out]; omega))
    simp only [hpl.out] at hcp
    have hsz : Hid (w.heap.size + 2 ≤ w2.heap.size) := by have := lt_of_block s2.out; show _ ≤ _; omega
    replace s2 := hid s2
    have w1c : IntKind.i64.wrap ((t : Int) + (n : Int)) = (t : Int) + (n : Int) := by rw [IntKind.wrap_i64]; omega
    have hn20 : (n : Int) ≤ 20000 := by omega
    have w3c : IntKind.i64.wrap (n : Int) = (n : Int) := by rw [IntKind.wrap_i64]; omega
    have w2c : ((t : Int) + (n : Int)).toNat = t + n := by omega
    have w5 : t + n - t = n := by omega
    have hkc : t + n ≤ c := by omega
    have hkc' : (t : Int) + (n : Int) ≤ (c : Int) := by omega
    have hak : (t : Int) ≤ (t : Int) + (n : Int) := by omega
    go_upto_region 27 with fail
    go_cut [10] from 117 to 134 (fun s10 wx => ∃ a3 c3, s10 = .slice a3 n c3 ∧ Own (w.heap.size + 2) wx (.slice a3 n c3) ((z.drop t).take n) ∧ QSt w wx q (.slice (some ⟨bb, off, none⟩) z.length c) z t false 3)
    case first =>
      by_cases hca : c = t
      · subst hca
        have hn0 : Hid (n = 0) := by show _ = _; omega
        have hn1 : (n : Int) ≤ 0 := by omega
        go_region_with (go_at_call 11; refine (hcp.out _ (by exact rfl) _ _ (.inl hn0.out) (by omega) (by omega)).mono ?_; rintro e w3 ⟨a3, c3, rfl, o3, b3⟩; replace o3 := hid o3; replace b3 := hid b3)
        all_goals (try go_wp2_with fail)
        all_goals go_meet
        all_goals exact ⟨a3, c3, rfl, o3.out.base hsz.out, s2.out.later (low' (below_drew (Below.refl _ _)) b3.out)⟩
      · go_region_with (go_at_call 11; refine (hcp.out _ (by exact rfl) _ _ (.inr rfl) (by omega) (by omega)).mono ?_; rintro e w3 ⟨a3, c3, rfl, o3, b3⟩; replace o3 := hid o3; replace b3 := hid b3)
        all_goals (try go_wp2_with fail)
        all_goals go_meet
        all_goals exact ⟨a3, c3, rfl, o3.out.base hsz.out, s2.out.later (low' (below_drew (Below.refl _ _)) b3.out)⟩
    case rest =>
      obtain ⟨a3, d3, rfl, o3, s3⟩ := hcut
      obtain ⟨⟨r0, r1, r2, r3, r4, r5, r6⟩, ⟨c0, c1, c2, c3, c4, c5, c6⟩, fr, fc, ⟨g0, g1, g2⟩, fg⟩ := s3.cells
      replace s3 := hid s3
      replace o3 := hid o3
      clear hcp s2
      go_wp2
      refine bodyPost_ret (v := agg { zeroV 3 with l := (z.drop t).take n } (.slice a3 n d3)) ?_ rfl (QSt.end (s3.out.to _ (t + n) (by omega) htn) (kept8 _ _ _ _ _ _ _ _ _ _ _) 3 most hr.out (stF _ _) hpl.out (s3.out.own o3.out _ _))
      simp [results, Try.results19, go_sem, r0, r1, r2, r3, r4, r5, r6]
      rfl
end Go.Proofs.Ythhfahnlcoiblaa
