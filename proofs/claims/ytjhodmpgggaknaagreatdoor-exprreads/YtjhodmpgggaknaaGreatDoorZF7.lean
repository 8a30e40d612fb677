/- The document's parts and conditions. -/
import Derived.Test.YtjhodmpgggaknaaGreatDoorZF6
namespace Go.Proofs.YtjhodmpgggaknaaGreatDoor
open Go.RowKit Go.Shelf Go.Maps
theorem rowD_own {l : List Tk} {lev : Lev} {i base : Nat} {w w' : World} {e : Ending} (h : RowD l lev i base w e w') : RowD l lev i base w e w' := h
theorem pE_comp {ks : List Key} (h1 : isK 1 [110, 111, 116] ks = false) (h2 : isK 4 [40] ks = false) : pE .one ks = (cmpP ks).map (fun p => (.leaf p.1, p.2)) := by
  cases ks with
  | nil => rfl
  | cons x r => exact pE_cmp (fun e => isK_no h1 r (by rw [e]; rfl)) (fun e => isK_no h2 r (by rw [e]; rfl))
theorem rowD_comp {l : List Tk} {i base : Nat} {w w' : World} {e : Ending} (hi : i ≤ l.length) (h1 : isK 1 [110, 111, 116] (kat l i) = false) (h2 : isK 4 [40] (kat l i) = false) (h : CmpD l i w e w') : RowD l .one i base w e w' := by
  obtain ⟨hb, ⟨e1, rfl⟩ | ⟨c, j, e1, hj, vn, rfl, ho⟩⟩ := h
  · exact ⟨hb, .inl ⟨by rw [pE_comp h1 h2, e1]; rfl, _, [], rfl, ownN_nil _ _, by simp; omega⟩⟩
  · have hs := cmpP_short e1
    rw [kat_len, kat_len] at hs
    exact ⟨hb, .inr ⟨.leaf c, j, vn, by rw [pE_comp h1 h2, e1]; rfl, by omega, hj, by simp only [Tree.size]; omega, rfl, ho⟩⟩
set_option maxRecDepth 100000 in
set_option maxHeartbeats 4000000 in
theorem partAnd_any {w : World} {v : Value} {l : List Tk} (h : IsDs w v l) (hl : l.length ≤ 8000000) (hsm : ∀ t ∈ l, t.text.length ≤ 4096) (i base : Nat) (hi : i ≤ l.length) (hb : base ≤ i)
    (hone : ∀ (W : World) (i' base' : Nat), Below w.heap.size w W → i < i' → i' ≤ l.length → base' ≤ i' → Calls Tryz.prog 61 #[v, .int .i64 (i' : Int), .int .i64 (base' : Int), .string ⟨([97, 110, 100] : Tx).toArray⟩] W (RowD l .one i' base' W))
    (hcond : ∀ (W : World) (i' base' : Nat), Below w.heap.size w W → i < i' → i' ≤ l.length → base' ≤ i' → Calls Tryz.prog 21 #[v, .int .i64 (i' : Int), .int .i64 (base' : Int)] W (RowD l .or i' base' W)) :
    Calls Tryz.prog 61 #[v, .int .i64 (i : Int), .int .i64 (base : Int), .string ⟨([97, 110, 100] : Tx).toArray⟩] w (RowD l .one i base w) := by
  have cI := hid (fun W (hb : Below w.heap.size w W) p k t => is_low (h.below hb) p k t)
  have cO := hid hone
  have cC := hid hcond
  have cM := hid (fun W (hb : Below w.heap.size w W) => rcomp_any (h.below hb) hl hsm i (by omega))
  obtain ⟨a, c, rfl⟩ := h.slice
  have hl8 := hid hl
  have hbi := hid hb
  have hil := hid hi
  obtain ⟨i1, hi1⟩ : ∃ n : Nat, n = i + 1 := ⟨_, rfl⟩
  have v1 : IntKind.i64.wrap ((i : Int) + 1) = (i1 : Int) := by rw [IntKind.wrap_i64]; omega
  have hl1 := hid (show i < i1 by omega)
  replace hi1 := hid hi1
  clear h hone hcond hl hi hb hsm
  go_enter Tryz.func61, Tryz.ntmps61
  cases q : isK 1 [110, 111, 116] (kat l i)
  · replace q := hid q
    go_wp2_with fail
    refine (cI.out w (Below.refl _ _) i 1 [110, 111, 116]).mono ?_
    rw [q.out]
    rintro e V ⟨rfl, vb⟩
    have hL := hid vb
    clear vb
    cases q2 : isK 4 [40] (kat l i)
    · replace q2 := hid q2
      go_wp2_with fail
      refine (cI.out V hL.out i 4 [40]).mono ?_
      rw [q2.out]
      rintro e V2 ⟨rfl, vb⟩
      replace hL := hid (low' hL.out vb)
      clear vb
      have hfinal := hid (fun e w' (h : CmpD l i V2 e w') => show RowD l .one i base w e w' from by
        obtain ⟨hb, h⟩ := h
        refine rowD_comp hil.out q.out q2.out ⟨low' hL.out hb, ?_⟩
        rcases h with h | ⟨c, j, e1, hj, vn, e2, ho⟩
        · exact .inl h
        · exact .inr ⟨c, j, e1, hj, vn, e2, ho.base hL.out.size⟩)
      go_wp2_with fail
      refine (cM.out V2 hL.out).mono ?_
      intro e V3 hc
      have hfin := hid (hfinal.out _ _ hc)
      obtain ⟨-, ⟨-, rfl⟩ | ⟨cc, j, -, -, vn, rfl, -⟩⟩ := hc
      · clear cI cO cC cM hfinal
        go_wp2
        go_ret2
        exact hfin.out
      · clear cI cO cC cM hfinal
        go_wp2
        go_ret2
        exact hfin.out
    · have hq := isK_sign q2 (by decide)
      have hK := hid hq.2
      have hil1 := hid (show i1 ≤ l.length by have := hi1.out; have := hq.1; omega)
      replace q2 := hid q2
      clear hq
      go_wp2_with fail
      refine (cI.out V hL.out i 4 [40]).mono ?_
      rw [q2.out]
      rintro e V2 ⟨rfl, vb⟩
      replace hL := hid (low' hL.out vb)
      clear vb
      have hpE : Hid (pE .one (kat l i) = closeF (pE .or (kat l i1))) := by
        show _ = _
        rw [hK.out, hi1.out]
        exact pE_open _
      go_wp2_with fail
      refine (cC.out V2 i1 base hL.out hl1.out hil1.out (by have := hbi.out; have := hl1.out; omega)).mono ?_
      rintro e V3 ⟨vb, ⟨g1, vn, ms, rfl, g2, g3⟩ | ⟨u, j, vn, g1, g2, g3, g4, rfl, g5⟩⟩
      · have hL3 := hid (low' hL.out vb)
        have hfin : Hid (RowD l .one i base w (.returned (.tuple #[.slice none 0 0, .int .i64 (-1)])) V3) := ⟨hL3.out, .inl ⟨by rw [hpE.out, g1]; rfl, _, [], rfl, ownN_nil _ _, by have := hil.out; simp; omega⟩⟩
        clear cI cO cC cM hpE hK g1 g2 g3 vb
        go_wp2
        go_ret2
        exact hfin.out
      · have hL3 := hid (low' hL.out vb)
        have hO3 := hid (g5.base (B' := w.heap.size) hL.out.size)
        obtain ⟨j1, hj1⟩ : ∃ n : Nat, n = j + 1 := ⟨_, rfl⟩
        have v2 : IntKind.i64.wrap ((j : Int) + 1) = (j1 : Int) := by rw [IntKind.wrap_i64]; have := hl8.out; omega
        have vneg : decide ((j : Int) < 0) = false := decide_eq_false (by omega)
        have gg := hid g1
        have g24 := hid (And.intro g2 g4)
        clear g1 g2 g4 g5 vb
        cases q3 : isK 4 [41] (kat l j)
        · have hnone : pE .one (kat l i) = none := by
            rw [hpE.out, gg.out]
            cases hk : kat l j with
            | nil => rfl
            | cons y r2 =>
              rw [closeF, if_neg]
              rintro rfl
              rw [hk] at q3
              cases q3
          have hfin : Hid (∀ W, Below w.heap.size w W → RowD l .one i base w (.returned (.tuple #[.slice none 0 0, .int .i64 (-1)])) W) := fun W hb => ⟨hb, .inl ⟨hnone, _, [], rfl, ownN_nil _ _, by have := hil.out; simp; omega⟩⟩
          clear hnone
          replace q3 := hid q3
          go_wp2_with fail
          refine (cI.out V3 hL3.out j 4 [41]).mono ?_
          rw [q3.out]
          rintro e V4 ⟨rfl, vb⟩
          have hL4 := hid (low' hL3.out vb)
          clear cI cO cC cM hpE hK vb g3 hj1
          go_wp2
          go_ret2
          exact hfin.out _ hL4.out
        · have hq := isK_sign q3 (by decide)
          have hfin : Hid (∀ W, Below w.heap.size w W → OwnN w.heap.size W vn (flat base u) → RowD l .one i base w (.returned (.tuple #[vn, .int .i64 (j1 : Int)])) W) := fun W hb ho => ⟨hb, .inr ⟨u, j1, vn, by
            rw [hpE.out, gg.out, hq.2, hj1]
            rfl, by have := g24.out; have := hl1.out; omega, by have := hq.1; omega, by have := g24.out; have := hl1.out; omega, rfl, ho⟩⟩
          replace q3 := hid q3
          replace hj1 := hid hj1
          clear hq
          go_wp2_with fail
          refine (cI.out V3 hL3.out j 4 [41]).mono ?_
          rw [q3.out]
          rintro e V4 ⟨rfl, vb⟩
          have hfin2 := hid (hfin.out V4 (low' hL3.out vb) (hO3.out.below vb))
          clear cI cO cC cM hpE hK vb g3 hfin hO3
          go_wp2
          go_ret2
          exact hfin2.out
  · have hq := isK_sign q (by decide)
    have hK := hid hq.2
    have hil1 := hid (show i1 ≤ l.length by have := hi1.out; have := hq.1; omega)
    replace q := hid q
    clear hq
    go_wp2_with fail
    refine (cI.out w (Below.refl _ _) i 1 [110, 111, 116]).mono ?_
    rw [q.out]
    rintro e V ⟨rfl, vb⟩
    have hL := hid vb
    clear vb
    have hpE : Hid (pE .one (kat l i) = (pE .one (kat l i1)).map (fun p => (.neg p.1, p.2))) := by
      show _ = _
      rw [hK.out, hi1.out]
      exact pE_not _
    go_wp2_with fail
    refine (cO.out V i1 base hL.out hl1.out hil1.out (by have := hbi.out; have := hl1.out; omega)).mono ?_
    rintro e V3 ⟨vb, ⟨g1, vn, ms, rfl, g2, g3⟩ | ⟨u, j, vn, g1, g2, g3, g4, rfl, g5⟩⟩
    · have hL3 := hid (low' hL.out vb)
      have hfin : Hid (RowD l .one i base w (.returned (.tuple #[.slice none 0 0, .int .i64 (-1)])) V3) := ⟨hL3.out, .inl ⟨by rw [hpE.out, g1]; rfl, _, [], rfl, ownN_nil _ _, by have := hil.out; simp; omega⟩⟩
      clear cI cO cC cM hpE hK g1 g2 g3 vb
      go_wp2
      go_ret2
      exact hfin.out
    · have hL3 := hid (low' hL.out vb)
      have hO3 := g5.base (B' := w.heap.size) hL.out.size
      obtain ⟨na, nc, rfl⟩ := hO3.sized (flat_len u base)
      have up := u.pos
      have ul : u.size ≤ 8000000 := by have := hl8.out; omega
      have bl : base ≤ 8000000 := by have := hl8.out; have := hbi.out; have := hil.out; omega
      obtain ⟨b1, hb1⟩ : ∃ n : Nat, n = base + u.size := ⟨_, rfl⟩
      have v2 : IntKind.i64.wrap ((base : Int) + (u.size : Int)) = (b1 : Int) := by rw [IntKind.wrap_i64]; omega
      have v3 : IntKind.i64.wrap ((b1 : Int) - 1) = (b1 : Int) - 1 := by rw [IntKind.wrap_i64]; omega
      have vneg : decide ((j : Int) < 0) = false := decide_eq_false (by omega)
      obtain ⟨qa, qc, P5, RUN, hO5, hB5⟩ := pushN_run hO3 (negNd ((b1 : Int) - 1)) rfl (by rw [flat_len]; omega) hL3.out.size
      rw [flat_len] at RUN hO5
      have RUN2 : Hid (∀ ty, (Builtin.append_ #[22, 22] ty #[.slice na u.size nc, .slice (some ⟨V3.heap.size, 0, none⟩) 1 1]).run Tryz.prog (V3.alloc (.cells #[.int .u8 3, .int .u8 0, .slice none 0 0, .int .i64 0, .int .u8 0, .int .i64 0, .int .i64 ((b1 : Int) - 1), .int .i64 0] 31)) = .ok (.slice qa (u.size + 1) qc) P5) := RUN
      have hfin : Hid (RowD l .one i base w (.returned (.tuple #[.slice qa (u.size + 1) qc, .int .i64 (j : Int)])) P5) := by
        refine ⟨hL3.out.trans hB5, .inr ⟨.neg u, j, _, by rw [hpE.out, g1]; rfl, by have := hl1.out; omega, g3, by have := hl1.out; simp only [Tree.size]; omega, rfl, ?_⟩⟩
        rw [flat, ← hb1]
        exact hO5
      replace hb1 := hid hb1
      clear cI cO cC cM hpE hK g1 g2 g3 g4 g5 vb RUN hO5 hB5 hO3
      go_wp2_with (at_builtin; refine wpList_append_run _ rfl _ _ 22 rfl _ _ _ _ rfl rfl RUN2.out ?_)
      go_ret2
      exact hfin.out
set_option maxRecDepth 100000 in
set_option maxHeartbeats 1000000 in
theorem partOr_any {w : World} {v : Value} {l : List Tk} (i base : Nat) (hs : ∃ a c, v = .slice a l.length c)
    (hrow : Calls Tryz.prog 40 #[v, .int .i64 (i : Int), .int .i64 (base : Int), .string ⟨([97, 110, 100] : Tx).toArray⟩] w (RowD l .and i base w)) :
    Calls Tryz.prog 61 #[v, .int .i64 (i : Int), .int .i64 (base : Int), .string ⟨([111, 114] : Tx).toArray⟩] w (RowD l .and i base w) := by
  obtain ⟨a, c, rfl⟩ := hs
  have cR := hid hrow
  clear hrow
  go_enter Tryz.func61, Tryz.ntmps61
  go_wp2_with fail
  refine cR.out.mono ?_
  intro e V hr
  have hfin := hid hr
  obtain ⟨-, ⟨-, vn, ms, rfl, -, -⟩ | ⟨u, j, vn, -, -, -, -, rfl, -⟩⟩ := hr
  · clear cR
    go_wp2
    go_ret2
    exact hfin.out
  · clear cR
    go_wp2
    go_ret2
    exact hfin.out
set_option maxRecDepth 100000 in
set_option maxHeartbeats 1000000 in
theorem cond_of {w : World} {v : Value} {l : List Tk} (i base : Nat) (hs : ∃ a c, v = .slice a l.length c)
    (hrow : Calls Tryz.prog 40 #[v, .int .i64 (i : Int), .int .i64 (base : Int), .string ⟨([111, 114] : Tx).toArray⟩] w (RowD l .or i base w)) :
    Calls Tryz.prog 21 #[v, .int .i64 (i : Int), .int .i64 (base : Int)] w (RowD l .or i base w) := by
  obtain ⟨a, c, rfl⟩ := hs
  have cR := hid hrow
  clear hrow
  go_enter Tryz.func21, Tryz.ntmps21
  go_wp2_with fail
  refine cR.out.mono ?_
  intro e V hr
  have hfin := hid hr
  obtain ⟨-, ⟨-, vn, ms, rfl, -, -⟩ | ⟨u, j, vn, -, -, -, -, rfl, -⟩⟩ := hr
  · clear cR
    go_wp2
    go_ret2
    exact hfin.out
  · clear cR
    go_wp2
    go_ret2
    exact hfin.out
/-- the document's conditions, from any token on. -/
theorem conds_any : ∀ (n : Nat) {w : World} {v : Value} {l : List Tk} (_ : IsDs w v l) (_ : l.length ≤ 8000000) (_ : ∀ t ∈ l, t.text.length ≤ 4096) (i base : Nat), i ≤ l.length → base ≤ i → l.length < n + i →
    Calls Tryz.prog 61 #[v, .int .i64 (i : Int), .int .i64 (base : Int), .string ⟨([97, 110, 100] : Tx).toArray⟩] w (RowD l .one i base w) ∧ Calls Tryz.prog 21 #[v, .int .i64 (i : Int), .int .i64 (base : Int)] w (RowD l .or i base w)
  | 0, _, _, _, _, _, _, _, _, h1, _, h2 => by omega
  | n + 1, w, v, l, h, hl, hsm, i, base, hi, hb, hn => by
    have one : ∀ (W : World) (i' base' : Nat), Below w.heap.size w W → i ≤ i' → i' ≤ l.length → base' ≤ i' → Calls Tryz.prog 61 #[v, .int .i64 (i' : Int), .int .i64 (base' : Int), .string ⟨([97, 110, 100] : Tx).toArray⟩] W (RowD l .one i' base' W) := fun W i' base' hW h1 h2 h3 =>
      partAnd_any (h.below hW) hl hsm i' base' h2 h3 (fun W2 i2 b2 hW2 a1 a2 a3 => (conds_any n ((h.below hW).below hW2) hl hsm i2 b2 a2 a3 (by omega)).1) (fun W2 i2 b2 hW2 a1 a2 a3 => (conds_any n ((h.below hW).below hW2) hl hsm i2 b2 a2 a3 (by omega)).2)
    have and_ : ∀ (W : World) (i' base' : Nat), Below w.heap.size w W → i ≤ i' → i' ≤ l.length → base' ≤ i' → Calls Tryz.prog 40 #[v, .int .i64 (i' : Int), .int .i64 (base' : Int), .string ⟨([97, 110, 100] : Tx).toArray⟩] W (RowD l .and i' base' W) := fun W i' base' hW h1 h2 h3 =>
      rowAnd_any (h.below hW) hl i' base' h2 h3 fun W2 i2 b2 hW2 a1 a2 a3 => one W2 i2 b2 (low' hW hW2) (by omega) a2 a3
    exact ⟨one w i base (Below.refl _ _) (Nat.le_refl _) hi hb, cond_of i base h.slice (rowOr_any h hl i base hi hb fun W2 i2 b2 hW2 a1 a2 a3 => partOr_any i2 b2 h.slice (and_ W2 i2 b2 hW2 a1 a2 a3))⟩
theorem cond_any {w : World} {v : Value} {l : List Tk} (h : IsDs w v l) (hl : l.length ≤ 8000000) (hsm : ∀ t ∈ l, t.text.length ≤ 4096) (i base : Nat) (hi : i ≤ l.length) (hb : base ≤ i) : Calls Tryz.prog 21 #[v, .int .i64 (i : Int), .int .i64 (base : Int)] w (RowD l .or i base w) := (conds_any (l.length + 1) h hl hsm i base hi hb (by omega)).2
end Go.Proofs.YtjhodmpgggaknaaGreatDoor
