/- Contract of Checkpoint. -/
import Derived.Test.YtihgikekkgoddaaGreatDoorZL16
namespace Go.Proofs.YtihgikekkgoddaaGreatDoor
open Go.RowKit Go.Shelf Sto

noncomputable def checkA (x : Lg) (t : St) (bs : List UInt8) : Int × St × Lg :=
  if x.br then (50, t, x) else
  if (seqA (writeL x.p x.n bs) t).1 ≠ 0 then ((seqA (writeL x.p x.n bs) t).1, (seqA (writeL x.p x.n bs) t).2, x) else
  if (seqA (moveL x.p x.n) (seqA (writeL x.p x.n bs) t).2).1 ≠ 0 then ((seqA (moveL x.p x.n) (seqA (writeL x.p x.n bs) t).2).1, (seqA (moveL x.p x.n) (seqA (writeL x.p x.n bs) t).2).2, { x with br := true }) else
  (0, (seqA (moveL x.p x.n) (seqA (writeL x.p x.n bs) t).2).2, { x with n := x.n + 1, c := 0 })
theorem seqA_acts {fs : List (St → Int × St)} (h : ∀ f ∈ fs, ∀ t, (f t).2.acts ≤ t.acts + 1) (t : St) : (seqA fs t).2.acts ≤ t.acts + fs.length := by
  induction fs generalizing t with
  | nil => exact Nat.le_refl _
  | cons f fs ih =>
    unfold seqA
    have h1 := h f List.mem_cons_self t
    split
    · have h2 := ih (fun f' hf => h f' (List.mem_cons_of_mem _ hf)) (f t).2
      simp only [List.length_cons]; omega
    · simp only [List.length_cons]; omega
theorem dropNew_acts (p : List UInt8) (t : St) : (dropNewA p t).2.acts ≤ t.acts + 1 := by
  unfold dropNewA
  split
  · exact remove_acts t _
  · simp
theorem write_acts (p : List UInt8) (n : Nat) (bs : List UInt8) (t : St) : (seqA (writeL p n bs) t).2.acts ≤ t.acts + 4 := by
  refine seqA_acts (fs := writeL p n bs) (fun f hf t => ?_) t
  unfold writeL at hf
  simp only [List.mem_cons, List.not_mem_nil, or_false] at hf
  rcases hf with rfl | rfl | rfl | rfl
  · exact dropNew_acts p t
  · exact append_acts t _ _
  · exact sync_acts t _
  · exact rename_acts t _ _
set_option maxRecDepth 100000 in
set_option maxHeartbeats 4000000 in
theorem lcheck (w : World) {B lb : Nat} {g : Gs} {t : St} {x : Lg} (h : Bo B w lb g t x) (hgood : Good x.p (namesOf t)) (hp : x.p.length ≤ 16) (hn : x.n + 1 < 100) (v : Value) (bs : List UInt8) (hv : Frm.IsB w v (ints bs)) (hl : bs.length ≤ 65536) (ha : t.acts + 20 < 4611686018427387904) {r : Int} {t' : St} {x' : Lg} (ht : checkA x t bs = (r, t', x')) :
    Calls Tryz.prog 10 #[ptr lb, v] w fun e w' => e = .returned (.int .i64 r) ∧ ∃ g', BStep B lb w w' g g' x x' t' := by
  obtain ⟨a0, c0, hv0⟩ := hv.slice
  unfold checkA at ht
  cases hbr : x.br with
  | true =>
    have hec := hid (lencode_br w h.log hbr a0 (ints bs).length c0)
    have H := hid h
    rw [hbr, if_pos rfl] at ht
    cases ht
    subst hv0
    clear h hv
    unfold ptr at *
    generalize (ints bs).length = n0 at *
    go_enter Tryz.func10, Tryz.ntmps10
    go_wp2_with fail
    refine hec.out.mono ?_
    rintro e w1 ⟨rfl, rfl⟩
    go_wp2
    go_ret
    exact ⟨rfl, g, H.out.same (Below.refl _ _)⟩
  | false =>
    have hec := hid (lencode w h hbr v bs hv hl)
    rw [hbr, if_neg (by simp)] at ht
    obtain ⟨r1, t1, hp1⟩ : ∃ r1 t1, seqA (writeL x.p x.n bs) t = (r1, t1) := ⟨_, _, rfl⟩
    have hac := write_acts x.p x.n bs t
    rw [hp1] at ht hac
    simp only at ht hac
    obtain ⟨r2, t2, hp2⟩ : ∃ r2 t2, seqA (moveL x.p x.n) t1 = (r2, t2) := ⟨_, _, rfl⟩
    rw [hp2] at ht
    simp only at ht
    have H := hid h
    have hlt := h.log.lt
    subst hv0
    clear h hv
    unfold ptr at *
    generalize (ints bs).length = n0 at *
    go_enter Tryz.func10, Tryz.ntmps10
    go_wp2_with fail
    refine hec.out.mono ?_
    rintro e w1 ⟨a, c, rfl, hown, hb1⟩
    have H1 := H.out.below hb1
    have cn1 := (H1.log.cells).2.2.1
    have hn9 : decide ((999999998 : Int) ≤ (x.n : Int)) = false := by simp; omega
    have hn10 : (x.n : Int) + 1 ≤ 9223372036854775807 := by omega
    have hwr := write_any w1 H1 hgood hp hn (by omega) a c bs (hown.base (Nat.zero_le _)) (fun b hb => ⟨fun hf => by have := H.out.is.1.lt hf; have := (hown.lt hb).1; omega, by have := (hown.lt hb).1; omega⟩) hp1
    have H1' := hid H1
    have HB1 := hid hb1
    replace hwr := hid hwr
    clear hown hb1 H1 hec
    unfold ptr at hwr
    generalize (enc bs).length = ml at *
    go_wp2_with fail
    refine hwr.out.mono ?_
    rintro e w2 ⟨rfl, g2, hs2⟩
    have st2 := (H.out.same HB1.out).trans hs2
    clear hwr hs2
    by_cases h1 : r1 = 0
    · subst h1
      rw [if_neg (by simp)] at ht
      have hmv := hid (moveOn_any w2 st2.bo hp hn (by omega) hp2)
      have cn2 := (st2.bo.log.cells).2.2.1
      have ST2 := hid st2
      clear st2
      unfold ptr at hmv
      go_wp2_with fail
      refine hmv.out.mono ?_
      rintro e w3 ⟨rfl, g3, hs3⟩
      have st3 := ST2.out.trans hs3
      clear hmv hs3
      have hcl := st3.bo.log.cells
      obtain ⟨q0, q1, cn3, cc3, cb3⟩ := hcl
      have fn3 : w3.frozen? ⟨lb, 2, none⟩ = false := frozen_of st3.bo.log _
      have fc3 : w3.frozen? ⟨lb, 3, none⟩ = false := frozen_of st3.bo.log _
      have fb3 : w3.frozen? ⟨lb, 4, none⟩ = false := frozen_of st3.bo.log _
      by_cases h2 : r2 = 0
      · subst h2
        rw [if_neg (by simp)] at ht
        cases ht
        have fin : Hid (BStep B lb w ((w3.setCell ⟨lb, 2, none⟩ (.int .i64 ((x.n : Int) + 1))).setCell ⟨lb, 3, none⟩ (.int .i64 0)) g g3 x ⟨x.sb, x.p, x.n + 1, 0, false⟩ t') := by
          have hL := (st3.bo.log.setN (x.n + 1)).setC 0
          have e : ({ { x with n := x.n + 1 } with c := 0 } : Lg) = ⟨x.sb, x.p, x.n + 1, 0, false⟩ := by rw [← hbr]
          rw [e] at hL
          rw [show ((x.n + 1 : Nat) : Int) = (x.n : Int) + 1 by omega] at hL
          have kp : Kept (fun b => b = lb) w3 ((w3.setCell ⟨lb, 2, none⟩ (.int .i64 ((x.n : Int) + 1))).setCell ⟨lb, 3, none⟩ (.int .i64 0)) := (kept_set (F := fun b => b = lb) _ _ _ _ rfl).trans (kept_set (F := fun b => b = lb) _ _ _ _ rfl) (fun b hb => .inl hb)
          exact ⟨⟨⟨st3.bo.is.1.keep (fun b hb => kp.block b (st3.bo.is.1.lt hb) (fun e => st3.bo.apart (e ▸ hb))), st3.bo.is.2.1, Nat.le_trans st3.bo.is.2.2 kp.size⟩, hL, st3.bo.base⟩, st3.kept.trans kp (fun b hb => .inl (.inr hb)), st3.fresh, rfl⟩
        clear st3
        go_wp2
        go_ret
        exact ⟨rfl, g3, fin.out⟩
      · have h2' : (r2 == 0) = false := by simpa using h2
        rw [if_pos h2] at ht
        cases ht
        have fin : Hid (BStep B lb w (w3.setCell ⟨lb, 4, none⟩ (.bool true)) g g3 x { x with br := true } t') := by
          have hL := st3.bo.log.setBr true
          have kp : Kept (fun b => b = lb) w3 (w3.setCell ⟨lb, 4, none⟩ (.bool true)) := kept_set _ _ _ _ rfl
          exact ⟨⟨⟨st3.bo.is.1.keep (fun b hb => kp.block b (st3.bo.is.1.lt hb) (fun e => st3.bo.apart (e ▸ hb))), st3.bo.is.2.1, Nat.le_trans st3.bo.is.2.2 kp.size⟩, hL, st3.bo.base⟩, st3.kept.trans kp (fun b hb => .inl (.inr hb)), st3.fresh, rfl⟩
        replace h2 := hid h2
        clear st3 hn10 hn9
        go_wp2
        go_ret
        exact ⟨rfl, g3, fin.out⟩
    · have h1' : (r1 == 0) = false := by simpa using h1
      rw [if_pos h1] at ht
      cases ht
      have ST2 := hid st2
      replace h1 := hid h1
      clear st2 hn10 hn9 cn1
      go_wp2
      go_ret
      exact ⟨rfl, g2, ST2.out⟩
end Go.Proofs.YtihgikekkgoddaaGreatDoor
