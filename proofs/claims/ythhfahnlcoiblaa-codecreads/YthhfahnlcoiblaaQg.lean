/- Contract of the document's Read, part 3: numbers, of three kinds. -/
import Derived.Test.YthhfahnlcoiblaaQf
namespace Go.Proofs.Ythhfahnlcoiblaa
open Go.RowKit

set_option maxRecDepth 100000 in
set_option maxHeartbeats 2000000 in
theorem qread_0 {q : Nat} {bs : Value} {z : List Int} {at_ n j : Nat} (most : Int) (w : World) (h : RefAt w q bs z at_ false) (hn : numP (z.drop at_) = some (n, j)) :
    Calls Try.prog 19 #[ptr q, .int .u8 0, .int .i64 most] w fun e w' => QRead w q bs z at_ false 0 most e w' := by
  have c2 : w.cell? ⟨q, 2, none⟩ = some (.bool false) := by rw [cell_of h.cell]; rfl
  have hs := QSt.first 0 h
  have hc := hid (qnumber _ hs.ref)
  have hlt := hs.lt
  have hr : Hid (readP 0 most (stOf z at_ false) = ({ zeroV 0 with u := n }, some (z.drop (at_ + j)))) := by
    show _ = _
    have hn1 := (numP_some (h.b.byt.drop at_) hn).1
    simp only [stF, readP, rnum_ok hn (show n ≤ 18446744073709551615 by omega), drop2]
  replace hs := hid hs
  replace hn := hid hn
  clear h
  unfold ptr at *
  go_enter Try.func19, Try.ntmps19
  go_wp2_with fail
  refine hc.out.mono ?_
  intro e w1 hq
  rcases hs.out.num hq with ⟨e1, -⟩ | ⟨n', j', e1, rfl, hlt64, hle, s1⟩
  · rw [hn.out] at e1; cases e1
  · rw [hn.out] at e1; cases e1
    obtain ⟨⟨r0, r1, r2, r3, r4, r5, r6⟩, ⟨c0, c1, c2, c3, c4, c5, c6⟩, fr, fc, ⟨g0, g1, g2⟩, fg⟩ := s1.cells
    replace s1 := hid s1
    clear hc hq hs
    go_wp2
    refine bodyPost_ret (v := agg { zeroV 0 with u := n } (.slice none 0 0)) ?_ rfl (QSt.fin s1.out (kept8 _ _ _ _ _ _ _ _ _ _ _) 0 most hr.out (stF _ _) (own_nil _ _))
    simp [results, Try.results19, go_sem, r0, r1, r2, r3, r4, r5, r6]
    rfl
set_option maxRecDepth 100000 in
set_option maxHeartbeats 2000000 in
theorem qread_1o {q : Nat} {bs : Value} {z : List Int} {at_ n j : Nat} (most : Int) (w : World) (h : RefAt w q bs z at_ false) (hn : numP (z.drop at_) = some (n, j)) (ho : n % 2 = 1) :
    Calls Try.prog 19 #[ptr q, .int .u8 1, .int .i64 most] w fun e w' => QRead w q bs z at_ false 1 most e w' := by
  have c2 : w.cell? ⟨q, 2, none⟩ = some (.bool false) := by rw [cell_of h.cell]; rfl
  have hs := QSt.first 1 h
  have hc := hid (qnumber _ hs.ref)
  have hlt := hs.lt
  have hob : ((n : Int) % 2 == 1) = true := by simp; omega
  have hn1 : n < 18446744073709551616 := (numP_some (h.b.byt.drop at_) hn).1
  have he : Hid (unz n = -((n : Int) / 2) - 1) := by show _ = _; unfold unz; rw [if_pos ho]; omega
  have hr : Hid (readP 1 most (stOf z at_ false) = ({ zeroV 1 with i := -((n : Int) / 2) - 1 }, some (z.drop (at_ + j)))) := by
    show _ = _
    simp only [stF, readP, rnum_ok hn (show n ≤ 18446744073709551615 by omega), drop2, he.out]
  replace hs := hid hs
  replace hn := hid hn
  clear h
  unfold ptr at *
  go_enter Try.func19, Try.ntmps19
  go_wp2_with fail
  refine hc.out.mono ?_
  intro e w1 hq
  rcases hs.out.num hq with ⟨e1, -⟩ | ⟨n', j', e1, rfl, hlt64, hle, s1⟩
  · rw [hn.out] at e1; cases e1
  · rw [hn.out] at e1; cases e1
    obtain ⟨⟨r0, r1, r2, r3, r4, r5, r6⟩, ⟨c0, c1, c2, c3, c4, c5, c6⟩, fr, fc, ⟨g0, g1, g2⟩, fg⟩ := s1.cells
    replace s1 := hid s1
    clear hc hq hs
    go_wp2
    refine bodyPost_ret (v := agg { zeroV 1 with i := -((n : Int) / 2) - 1 } (.slice none 0 0)) ?_ rfl (QSt.fin s1.out (kept9 _ _ _ _ _ _ _ _ _ _ _ _ _) 1 most hr.out (stF _ _) (own_nil _ _))
    simp [results, Try.results19, go_sem, r0, r1, r2, r3, r4, r5, r6]
    rfl
set_option maxRecDepth 100000 in
set_option maxHeartbeats 2000000 in
theorem qread_1e {q : Nat} {bs : Value} {z : List Int} {at_ n j : Nat} (most : Int) (w : World) (h : RefAt w q bs z at_ false) (hn : numP (z.drop at_) = some (n, j)) (ho : n % 2 ≠ 1) :
    Calls Try.prog 19 #[ptr q, .int .u8 1, .int .i64 most] w fun e w' => QRead w q bs z at_ false 1 most e w' := by
  have c2 : w.cell? ⟨q, 2, none⟩ = some (.bool false) := by rw [cell_of h.cell]; rfl
  have hs := QSt.first 1 h
  have hc := hid (qnumber _ hs.ref)
  have hlt := hs.lt
  have hob : ((n : Int) % 2 == 1) = false := by simp; omega
  have hn1 : n < 18446744073709551616 := (numP_some (h.b.byt.drop at_) hn).1
  have he : Hid (unz n = (n : Int) / 2) := by show _ = _; unfold unz; rw [if_neg ho]; omega
  have hr : Hid (readP 1 most (stOf z at_ false) = ({ zeroV 1 with i := (n : Int) / 2 }, some (z.drop (at_ + j)))) := by
    show _ = _
    simp only [stF, readP, rnum_ok hn (show n ≤ 18446744073709551615 by omega), drop2, he.out]
  replace hs := hid hs
  replace hn := hid hn
  clear h
  unfold ptr at *
  go_enter Try.func19, Try.ntmps19
  go_wp2_with fail
  refine hc.out.mono ?_
  intro e w1 hq
  rcases hs.out.num hq with ⟨e1, -⟩ | ⟨n', j', e1, rfl, hlt64, hle, s1⟩
  · rw [hn.out] at e1; cases e1
  · rw [hn.out] at e1; cases e1
    obtain ⟨⟨r0, r1, r2, r3, r4, r5, r6⟩, ⟨c0, c1, c2, c3, c4, c5, c6⟩, fr, fc, ⟨g0, g1, g2⟩, fg⟩ := s1.cells
    replace s1 := hid s1
    clear hc hq hs
    go_wp2
    refine bodyPost_ret (v := agg { zeroV 1 with i := (n : Int) / 2 } (.slice none 0 0)) ?_ rfl (QSt.fin s1.out (kept8 _ _ _ _ _ _ _ _ _ _ _) 1 most hr.out (stF _ _) (own_nil _ _))
    simp [results, Try.results19, go_sem, r0, r1, r2, r3, r4, r5, r6]
    rfl
set_option maxRecDepth 100000 in
set_option maxHeartbeats 2000000 in
theorem qread_5n {q : Nat} {bs : Value} {z : List Int} {at_ n j : Nat} (most : Int) (w : World) (h : RefAt w q bs z at_ false) (hn : numP (z.drop at_) = some (n, j)) (hm : most < 0) :
    Calls Try.prog 19 #[ptr q, .int .u8 5, .int .i64 most] w fun e w' => QRead w q bs z at_ false 5 most e w' := by
  have c2 : w.cell? ⟨q, 2, none⟩ = some (.bool false) := by rw [cell_of h.cell]; rfl
  have hs := QSt.first 5 h
  have hc := hid (qnumber _ hs.ref)
  have hlt := hs.lt
  have hm' : decide (most < 0) = true := by simpa using hm
  have hr : Hid (readP 5 most (stOf z at_ false) = (zeroV 5, none)) := by
    show _ = _
    simp only [readP]
    rw [if_pos hm]
  replace hs := hid hs
  replace hn := hid hn
  clear h
  unfold ptr at *
  go_enter Try.func19, Try.ntmps19
  go_wp2_with fail
  refine hc.out.mono ?_
  intro e w1 hq
  rcases hs.out.num hq with ⟨e1, -⟩ | ⟨n', j', e1, rfl, hlt64, hle, s1⟩
  · rw [hn.out] at e1; cases e1
  · rw [hn.out] at e1; cases e1
    obtain ⟨⟨r0, r1, r2, r3, r4, r5, r6⟩, ⟨c0, c1, c2, c3, c4, c5, c6⟩, fr, fc, ⟨g0, g1, g2⟩, fg⟩ := s1.cells
    replace s1 := hid s1
    clear hc hq hs
    go_wp2
    refine bodyPost_ret (v := agg (zeroV 5) (.slice none 0 0)) ?_ rfl (QSt.fin s1.out.fail (kept7 _ _ _ _ _ _ _ _ _) 5 most hr.out (stT _ _) (own_nil _ _))
    simp [results, Try.results19, go_sem, r0, r1, r2, r3, r4, r5, r6]
    rfl
set_option maxRecDepth 100000 in
set_option maxHeartbeats 2000000 in
theorem qread_5b {q : Nat} {bs : Value} {z : List Int} {at_ n j : Nat} (most : Int) (w : World) (h : RefAt w q bs z at_ false) (hn : numP (z.drop at_) = some (n, j)) (hm : ¬ most < 0) (hb : most < (n : Int)) :
    Calls Try.prog 19 #[ptr q, .int .u8 5, .int .i64 most] w fun e w' => QRead w q bs z at_ false 5 most e w' := by
  have c2 : w.cell? ⟨q, 2, none⟩ = some (.bool false) := by rw [cell_of h.cell]; rfl
  have hs := QSt.first 5 h
  have hc := hid (qnumber _ hs.ref)
  have hlt := hs.lt
  have hm' : decide (most < 0) = false := by simpa using hm
  have hr : Hid (readP 5 most (stOf z at_ false) = (zeroV 5, none)) := by
    show _ = _
    simp only [stF, readP]
    rw [if_neg hm, rnum_big hn (by omega)]
    rfl
  replace hs := hid hs
  replace hn := hid hn
  clear h
  unfold ptr at *
  go_enter Try.func19, Try.ntmps19
  go_wp2_with fail
  refine hc.out.mono ?_
  intro e w1 hq
  rcases hs.out.num hq with ⟨e1, -⟩ | ⟨n', j', e1, rfl, hlt64, hle, s1⟩
  · rw [hn.out] at e1; cases e1
  · rw [hn.out] at e1; cases e1
    obtain ⟨⟨r0, r1, r2, r3, r4, r5, r6⟩, ⟨c0, c1, c2, c3, c4, c5, c6⟩, fr, fc, ⟨g0, g1, g2⟩, fg⟩ := s1.cells
    replace s1 := hid s1
    clear hc hq hs
    go_wp2
    refine bodyPost_ret (v := agg (zeroV 5) (.slice none 0 0)) ?_ rfl (QSt.fin s1.out.fail (kept7 _ _ _ _ _ _ _ _ _) 5 most hr.out (stT _ _) (own_nil _ _))
    simp [results, Try.results19, go_sem, r0, r1, r2, r3, r4, r5, r6]
    rfl
set_option maxRecDepth 100000 in
set_option maxHeartbeats 2000000 in
theorem qread_5 {q : Nat} {bs : Value} {z : List Int} {at_ n j : Nat} (most : Int) (w : World) (h : RefAt w q bs z at_ false) (hn : numP (z.drop at_) = some (n, j)) (hm : ¬ most < 0) (hb : ¬ most < (n : Int)) (hx : most ≤ 9223372036854775807) :
    Calls Try.prog 19 #[ptr q, .int .u8 5, .int .i64 most] w fun e w' => QRead w q bs z at_ false 5 most e w' := by
  have c2 : w.cell? ⟨q, 2, none⟩ = some (.bool false) := by rw [cell_of h.cell]; rfl
  have hs := QSt.first 5 h
  have hc := hid (qnumber _ hs.ref)
  have hlt := hs.lt
  have hm' : decide (most < 0) = false := by simpa using hm
  have hr : Hid (readP 5 most (stOf z at_ false) = ({ zeroV 5 with n := n }, some (z.drop (at_ + j)))) := by
    show _ = _
    simp only [stF, readP]
    rw [if_neg hm, rnum_ok hn (by omega), drop2]
  replace hs := hid hs
  replace hn := hid hn
  clear h
  unfold ptr at *
  go_enter Try.func19, Try.ntmps19
  go_wp2_with fail
  refine hc.out.mono ?_
  intro e w1 hq
  rcases hs.out.num hq with ⟨e1, -⟩ | ⟨n', j', e1, rfl, hlt64, hle, s1⟩
  · rw [hn.out] at e1; cases e1
  · rw [hn.out] at e1; cases e1
    obtain ⟨⟨r0, r1, r2, r3, r4, r5, r6⟩, ⟨c0, c1, c2, c3, c4, c5, c6⟩, fr, fc, ⟨g0, g1, g2⟩, fg⟩ := s1.cells
    replace s1 := hid s1
    clear hc hq hs
    go_wp2
    refine bodyPost_ret (v := agg { zeroV 5 with n := n } (.slice none 0 0)) ?_ rfl (QSt.fin s1.out (kept8 _ _ _ _ _ _ _ _ _ _ _) 5 most hr.out (stF _ _) (own_nil _ _))
    simp [results, Try.results19, go_sem, r0, r1, r2, r3, r4, r5, r6]
    rfl
end Go.Proofs.Ythhfahnlcoiblaa
