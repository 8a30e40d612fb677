/- Contract of the document's Read, part 2: the number isn't there. -/
import Derived.Test.YthhfahnlcoiblaaQe
namespace Go.Proofs.Ythhfahnlcoiblaa
open Go.RowKit

set_option maxRecDepth 100000 in
set_option maxHeartbeats 2000000 in
theorem qread_no {q : Nat} {bs : Value} {z : List Int} {at_ : Nat} (k : Nat) (most : Int) (w : World) (h : RefAt w q bs z at_ false) (hk : k ≤ 5) (h2 : k ≠ 2) (hn : numP (z.drop at_) = none) :
    Calls Try.prog 19 #[ptr q, .int .u8 (k : Int), .int .i64 most] w fun e w' => QRead w q bs z at_ false k most e w' := by
  have c2 : w.cell? ⟨q, 2, none⟩ = some (.bool false) := by rw [cell_of h.cell]; rfl
  have hs := QSt.first (k : Int) h
  have hc := hid (qnumber _ hs.ref)
  have hlt := hs.lt
  have hr := hid (readP_no k most hk h2 hn)
  have hk2 : ((k : Int) == 2) = false := by simp; omega
  replace hs := hid hs
  replace hn := hid hn
  clear h h2
  unfold ptr at *
  go_enter Try.func19, Try.ntmps19
  go_wp2_with fail
  refine hc.out.mono ?_
  intro e w1 hq
  rcases hs.out.num hq with ⟨-, rfl, s1⟩ | ⟨n, j, e1, -⟩
  · obtain ⟨⟨r0, r1, r2, r3, r4, r5, r6⟩, ⟨c0, c1, c2, c3, c4, c5, c6⟩, fr, fc, ⟨g0, g1, g2⟩, fg⟩ := s1.cells
    replace s1 := hid s1
    clear hc hq hs
    go_wp2
    refine bodyPost_ret (v := agg (zeroV k) (.slice none 0 0)) ?_ rfl (QSt.fin s1.out.fail (kept7 _ _ _ _ _ _ _ _ _) k most hr.out (stT _ _) (own_nil _ _))
    simp [results, Try.results19, go_sem, r0, r1, r2, r3, r4, r5, r6]
    rfl
  · rw [hn.out] at e1; cases e1
end Go.Proofs.Ythhfahnlcoiblaa
