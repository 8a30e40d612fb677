import Derived.Test.YtjhodmpgggaknaaGreatDoorZF4P
/- The document's comparison. -/
namespace Go.Proofs.YtjhodmpgggaknaaGreatDoor
open Go.RowKit Go.Shelf Go.Maps
set_option maxRecDepth 100000 in
set_option maxHeartbeats 16000000 in
theorem rcomp_any {w : World} {v : Value} {l : List Tk} (h : IsDs w v l) (hl : l.length ≤ 8000000) (hsm : ∀ t ∈ l, t.text.length ≤ 4096) (i : Nat) (hi : i ≤ 9000000) : Calls Tryz.prog 85 #[v, .int .i64 (i : Int)] w (CmpD l i w) := by
  have cI := hid (fun W (hb : Below w.heap.size w W) p k t => is_low (h.below hb) p k t)
  have cM := hid (fun W (hb : Below w.heap.size w W) p (hp : p ≤ 90000000) => rmatcher_any (h.below hb) p hp)
  have cA := hid (fun (W : World) k hk => agg_any k hk W)
  have cC := hid (fun (W : World) k hk => rcmp_any k hk W)
  have cMay := hid (fun (W : World) (va : Value) m (hm : Mat.IsMs W va m) => Mat.rmay_any va m W hm)
  have cW := hid (fun (W : World) s hs => rwindow_any s W hs)
  have cP := hid (fun (W : World) s hs => Num.rparse_any s W hs)
  have hD := hid h
  replace hsm := hid (fun j x (hx : l[j]? = some x) => hsm x (List.mem_of_getElem? hx))
  obtain ⟨a, c, rfl⟩ := h.slice
  clear h
  unfold str at cA cC cW
  have hX := hid (show BoxN w (w.alloc (.cells #[.int .u8 0, .int .u8 0, .slice none 0 0, .int .i64 0, .int .u8 0, .int .i64 0, .int .i64 0, .int .i64 0] 31)) w.heap.size 0 (.slice none 0 0) 0 0 0 from ⟨alloc_below _ _, Nat.le_refl _, new_block _ _⟩)
  have hl8 := hid hl
  have li : i ≤ 9000000 := hi
  obtain ⟨i1, hi1⟩ : ∃ n : Nat, n = i + 1 := ⟨_, rfl⟩
  obtain ⟨i2, hi2⟩ : ∃ n : Nat, n = i + 2 := ⟨_, rfl⟩
  obtain ⟨i3, hi3⟩ : ∃ n : Nat, n = i + 3 := ⟨_, rfl⟩
  have wi1 : IntKind.i64.wrap ((i : Int) + 1) = (i1 : Int) := by rw [IntKind.wrap_i64]; omega
  have wi2 : IntKind.i64.wrap ((i : Int) + 2) = (i2 : Int) := by rw [IntKind.wrap_i64]; omega
  have wi3 : IntKind.i64.wrap ((i : Int) + 3) = (i3 : Int) := by rw [IntKind.wrap_i64]; omega
  have li3 : i3 ≤ 9000003 := by omega
  replace hi1 := hid hi1
  replace hi2 := hid hi2
  replace hi3 := hid hi3
  clear hi hl
  go_enter Tryz.func85, Tryz.ntmps85
  go_wp2_with fail
  obtain ⟨W0, hW0⟩ : ∃ W0, w.alloc (.cells #[.int .u8 0, .int .u8 0, .slice none 0 0, .int .i64 0, .int .u8 0, .int .i64 0, .int .i64 0, .int .i64 0] 31) = W0 := ⟨_, rfl⟩
  rw [hW0] at hX ⊢
  clear hW0
  go_loopw [7] (fun kv wr => ∃ k : Nat, kv = .int .i64 (k : Int) ∧ k ≤ 6 ∧ Hid (BoxN w wr w.heap.size 0 (.slice none 0 0) 0 0 0) ∧ Hid (∀ j, j < k → isK 1 (aggS j) (kat l i) = false)) (fun kv _ => 6 - (intOf kv).toNat)
  case atStart => exact ⟨0, rfl, by omega, hX, fun j hj => by omega⟩
  case round =>
    clear hX
    obtain ⟨k, rfl, hk, hX, hno⟩ := hrel
    by_cases hk6 : k = 6
    · subst hk6
      have hfin := hid (cmpP_no1 hno.out)
      clear cI cM cA cC cMay cW cP hD hsm
      go_wp2
      go_ret2
      exact cmpD_no hX.out.low hfin.out
    have hk6' : (k : Int) < 6 := by omega
    have hke : ((k : Int) == 6) = false := by simp; omega
    have ca := hid (cA.out wr k (by omega))
    go_wp2_with fail
    refine ca.out.mono ?_
    rintro e V0 ⟨rfl, vb⟩
    replace hX := hid (hX.out.below vb)
    clear vb ca
    cases qa : isK 1 (aggS k) (kat l i)
    · replace qa := hid qa
      go_wp2_with fail
      refine (cI.out _ hX.out.low i 1 (aggS k)).mono ?_
      rw [qa.out]
      rintro e V1 ⟨rfl, vb⟩
      replace hX := hid (hX.out.below vb)
      clear vb
      have hno' : Hid (∀ j, j < k + 1 → isK 1 (aggS j) (kat l i) = false) := fun j hj => by
        by_cases hjk : j = k
        · rw [hjk]; exact qa.out
        · exact hno.out j (by omega)
      go_wp2
      exact ⟨⟨k + 1, by simp, by omega, hX, hno'⟩, by simp [intOf]; omega⟩
    · replace qa := hid qa
      go_wp2_with fail
      refine (cI.out _ hX.out.low i 1 (aggS k)).mono ?_
      rw [qa.out]
      rintro e V1 ⟨rfl, vb⟩
      replace hX := hid (hX.out.below vb)
      clear vb
      have ha := hid (isK_sign qa.out (ragg_of k (by omega)).2.1)
      clear hno
      cases qb : isK 4 [40] (kat l i1)
      · replace qb := hid qb
        go_wp2_with fail
        refine (cI.out _ hX.out.low i1 4 [40]).mono ?_
        rw [qb.out]
        rintro e V2 ⟨rfl, vb⟩
        replace hX := hid (hX.out.below vb)
        clear vb
        have hfin := hid (show cmpP (kat l i) = none from by rw [ha.out.2, ← hi1.out]; exact cmpP_no2 qb.out)
        clear cI cM cA cC cMay cW cP hD hsm
        go_wp2
        go_ret2
        exact cmpD_no hX.out.low hfin.out
      · replace qb := hid qb
        go_wp2_with fail
        refine (cI.out _ hX.out.low i1 4 [40]).mono ?_
        rw [qb.out]
        rintro e V2 ⟨rfl, vb⟩
        replace hX := hid (hX.out.below vb)
        clear vb
        have hb := hid (isK_sign qb.out (by decide))
        cases qc : isK 4 [123] (kat l i2)
        · replace qc := hid qc
          go_wp2_with fail
          refine (cI.out _ hX.out.low i2 4 [123]).mono ?_
          rw [qc.out]
          rintro e V3 ⟨rfl, vb⟩
          replace hX := hid (hX.out.below vb)
          clear vb
          have hfin := hid (show cmpP (kat l i) = none from by rw [ha.out.2, ← hi1.out, hb.out.2, hi1.out, ← hi2.out]; exact cmpP_no3 qc.out)
          clear cI cM cA cC cMay cW cP hD hsm
          go_wp2
          go_ret2
          exact cmpD_no hX.out.low hfin.out
        · replace qc := hid qc
          go_wp2_with fail
          refine (cI.out _ hX.out.low i2 4 [123]).mono ?_
          rw [qc.out]
          rintro e V3 ⟨rfl, vb⟩
          replace hX := hid (hX.out.below vb)
          clear vb
          have hc := hid (isK_sign qc.out (by decide))
          have hC : Hid (cmpP (kat l i) = restP (UInt8.ofNat k) (kat l i3)) := by
            show _ = _
            rw [ha.out.2, ← hi1.out, hb.out.2, show i1 + 1 = i2 by have := hi1.out; have := hi2.out; omega, hc.out.2, show i2 + 1 = i3 by have := hi2.out; have := hi3.out; omega]
            exact cmpP_go (by omega) _
          have hlen3 : i3 ≤ l.length := by have := hc.out.1; have := hi2.out; have := hi3.out; omega
          have wk : IntKind.u8.wrap (k : Int) = (k : Int) := by rw [IntKind.wrap_u8]; omega
          have hk5 : k < 6 := by omega
          clear ha hb hc qa qb qc wi1 wi2 hi1 hi2
          have y1 := hX.out.all.2.1
          have f1 := frozen_of hX.out.at_ 1
          have hX1 := hid (hX.out.set1 (k : Int))
          have hO1 := hid (Mat.ownM_nil (w.heap.size + 1) (V3.setCell ⟨w.heap.size, 1, none⟩ (.int .u8 (k : Int))))
          clear hX
          cases qd : isK 4 [125] (kat l i3)
          · replace qd := hid qd
            go_wp2_with fail
            obtain ⟨U0, hU0⟩ : ∃ U0, V3.setCell ⟨w.heap.size, 1, none⟩ (.int .u8 (k : Int)) = U0 := ⟨_, rfl⟩
            rw [hU0] at hX1 hO1 ⊢
            clear hU0 y1 f1
            refine (cI.out _ hX1.out.low i3 4 [125]).mono ?_
            rw [qd.out]
            rintro e V ⟨rfl, vb⟩
            have hO := hid (hO1.out.below vb)
            have hX := hid (hX1.out.below vb)
            clear vb hO1 hX1
            have hC2 : Hid (cmpP (kat l i) = restM (UInt8.ofNat k) (moreM [] (kat l i3))) := by
              show _ = _
              rw [hC.out, restP_else qd.out]
            clear hC qd
            go_wp2_with fail
            go_loopw [1] (fun av wr => ∃ (j : Nat) (acc : List Mat.Mt) (sa : Option Addr) (sc : Nat), av = .int .i64 (j : Int) ∧ j ≤ l.length ∧ Hid (BoxN w wr w.heap.size (k : Int) (.slice sa acc.length sc) 0 0 0) ∧ Hid (Mat.OwnM (w.heap.size + 1) wr (.slice sa acc.length sc) acc) ∧ acc.length ≤ j ∧ Hid (moreM [] (kat l i3) = moreM acc (kat l j))) (fun av _ => l.length + 1 - (intOf av).toNat)
            case atStart => exact ⟨i3, [], none, 0, rfl, by omega, hX, hO, by simp, rfl⟩
            case round =>
              clear hX hO
              obtain ⟨j, acc, sa, sc, rfl, hj, hX, hO, hacc, hM⟩ := hrel
              have lj : j ≤ 9000000 := by have := hl8.out; omega
              obtain ⟨j3, hj3⟩ : ∃ n : Nat, n = j + 3 := ⟨_, rfl⟩
              obtain ⟨j4, hj4⟩ : ∃ n : Nat, n = j3 + 1 := ⟨_, rfl⟩
              have wj4 : IntKind.i64.wrap ((j3 : Int) + 1) = (j4 : Int) := by rw [IntKind.wrap_i64]; omega
              have jn : decide ((j3 : Int) < 0) = false := decide_eq_false (by omega)
              replace hj3 := hid hj3
              replace hj4 := hid hj4
              have cm := hid (cM.out _ hX.out.low j (by omega))
              go_wp2_with fail
              refine cm.out.mono ?_
              rintro e V2 ⟨vb, hm⟩
              replace hO := hid (hO.out.below vb)
              replace hX := hid (hX.out.below vb)
              clear vb cm
              rcases hm with ⟨hn, rfl⟩ | ⟨m, hm, lm, lv, hlt, ⟨k1, k2, k3, hk3⟩, rfl⟩
              · have hfin := hid (show cmpP (kat l i) = none by rw [hC2.out, hM.out, moreM_none hn]; rfl)
                clear cI cM cA cC cMay cW cP hD hsm hn
                go_wp2
                go_ret2
                exact cmpD_no (low' hX.out.low (alloc_below _ _)) hfin.out
              have hm3 := hid (show matK (k1 :: k2 :: k3 :: kat l j3) = some m by rw [hj3.out, ← hk3]; exact hm)
              have hM3 : Hid (moreM [] (kat l i3) = moreM acc (k1 :: k2 :: k3 :: kat l j3)) := by
                show _ = _
                rw [hM.out, hk3, ← hj3.out]
              have hlt3 : j3 ≤ l.length := by have := hj3.out; omega
              rw [← hj3.out]
              clear hm hk3 hM hlt
              obtain ⟨mn, mo, mv⟩ := m
              simp only at lm lv
              have hXb := hX.out.below (alloc_below V2 (.cells #[.string ⟨mn.toArray⟩, .int .u8 (mo.toNat : Int), .string ⟨mv.toArray⟩] 33))
              have x2 := hXb.c2
              obtain ⟨pa, pc, P3, RUN, hO3, hB3⟩ := Mat.pushM_run (hO.out.below (alloc_below V2 (.cells #[.string ⟨mn.toArray⟩, .int .u8 (mo.toNat : Int), .string ⟨mv.toArray⟩] 33))) mn mo mv (by unfold maxLen; omega) (by unfold maxLen; omega) (by have := hl8.out; omega) hXb.lt
              rw [show (V2.alloc (.cells #[.string ⟨mn.toArray⟩, .int .u8 (mo.toNat : Int), .string ⟨mv.toArray⟩] 33)).heap.size = V2.heap.size + 1 by simp] at RUN
              have hX3 := hXb.pushed hB3
              have y2 := hX3.c2
              have g2 := frozen_of hX3.at_ 2
              have hX4 := hid (hX3.set2 (.slice pa (acc.length + 1) pc))
              have hO4 := hid (ownM_set hO3 2 (.slice pa (acc.length + 1) pc))
              replace RUN := hid RUN
              clear hX hO hX3 hO3 hB3 hXb
              unfold Mat.opv str at *
              go_wp2_with (at_builtin; refine wpList_append_run _ rfl _ _ 29 rfl _ _ _ _ rfl rfl RUN.out ?_)
              obtain ⟨P4, hP4⟩ : ∃ P4, P3.setCell ⟨w.heap.size, 2, none⟩ (.slice pa (acc.length + 1) pc) = P4 := ⟨_, rfl⟩
              rw [hP4] at hX4 hO4 ⊢
              clear hP4 y2 g2 x2 RUN
              have hMM := moreM_at (acc := acc) hm3.out
              have hlen4 : (acc ++ [(mn, mo, mv)]).length = acc.length + 1 := by simp
              cases qe : isK 4 [125] (kat l j3)
              · have hMM2 := hid (hMM.2 qe)
                replace qe := hid qe
                clear hMM
                refine (cI.out _ hX4.out.low j3 4 [125]).mono ?_
                rw [qe.out]
                rintro e V5 ⟨rfl, vb⟩
                have hO := hid (hO4.out.below vb)
                have hX := hid (hX4.out.below vb)
                clear vb hO4 hX4
                cases qf : isK 4 [44] (kat l j3)
                · have hfin := hid (show cmpP (kat l i) = none by rw [hC2.out, hM3.out, hMM2.out.2 qf]; rfl)
                  replace qf := hid qf
                  go_wp2_with fail
                  refine (cI.out _ hX.out.low j3 4 [44]).mono ?_
                  rw [qf.out]
                  rintro e V6 ⟨rfl, vb⟩
                  replace hX := hid (hX.out.below vb)
                  clear vb cI cM cA cC cMay cW cP hD hsm
                  go_wp2
                  go_ret2
                  exact cmpD_no hX.out.low hfin.out
                · have hcm := isK_sign qf (by decide)
                  have hM5 : Hid (moreM [] (kat l i3) = moreM (acc ++ [(mn, mo, mv)]) (kat l j4)) := by
                    show _ = _
                    rw [hM3.out, hMM2.out.1 _ hcm.2, ← hj4.out]
                  have hj5 : j4 ≤ l.length := by have := hj4.out; have := hcm.1; omega
                  have hacc5 : acc.length + 1 ≤ j4 := by have := hj4.out; have := hj3.out; omega
                  have hmeas : l.length + 1 - j4 < l.length + 1 - j := by have := hj4.out; have := hj3.out; omega
                  replace qf := hid qf
                  clear hcm
                  go_wp2_with fail
                  refine (cI.out _ hX.out.low j3 4 [44]).mono ?_
                  rw [qf.out]
                  rintro e V6 ⟨rfl, vb⟩
                  replace hX := hid (hX.out.below vb)
                  replace hO := hid (hO.out.below vb)
                  clear vb
                  rw [← hlen4] at hX hO hacc5
                  clear hlen4
                  generalize acc ++ [(mn, mo, mv)] = acc2 at *
                  go_wp2
                  exact ⟨⟨j4, acc2, pa, pc, rfl, hj5, hX, hO, hacc5, hM5⟩, by simpa [intOf] using hmeas⟩
              · have hcm := isK_sign qe (by decide)
                have hM5 : Hid (cmpP (kat l i) = if Mat.mayM (acc ++ [(mn, mo, mv)]) then tailP (UInt8.ofNat k) (acc ++ [(mn, mo, mv)]) (kat l j4) else none) := by
                  show _ = _
                  rw [hC2.out, hM3.out, hMM.1 _ hcm.2, ← hj4.out]
                  rfl
                have hlp : j4 ≤ l.length := by have := hj4.out; have := hcm.1; omega
                have lp : j4 ≤ 9000004 := by have := hl8.out; omega
                replace qe := hid qe
                refine (cI.out _ hX4.out.low j3 4 [125]).mono ?_
                rw [qe.out]
                rintro e V5 ⟨rfl, vb⟩
                have hO := hid (hO4.out.below vb)
                have hX := hid (hX4.out.below vb)
                clear vb hO4 hX4 hMM hcm hC2 hM3 hm3
                have hS := hM5
                rw [← hlen4] at hX hO
                clear hlen4 hM5 qe
                generalize acc ++ [(mn, mo, mv)] = sel at *
                obtain ⟨sv, hsv⟩ : ∃ sv : Value, sv = .slice pa sel.length pc := ⟨_, rfl⟩
                rw [← hsv] at hX hO
                replace hsv := hid hsv
                obtain ⟨p1, hp1⟩ : ∃ n : Nat, n = j4 + 1 := ⟨_, rfl⟩
                obtain ⟨p2, hp2⟩ : ∃ n : Nat, n = j4 + 2 := ⟨_, rfl⟩
                obtain ⟨p3, hp3⟩ : ∃ n : Nat, n = j4 + 3 := ⟨_, rfl⟩
                obtain ⟨p4, hp4⟩ : ∃ n : Nat, n = j4 + 4 := ⟨_, rfl⟩
                obtain ⟨p5, hp5⟩ : ∃ n : Nat, n = p4 + 1 := ⟨_, rfl⟩
                obtain ⟨p6, hp6⟩ : ∃ n : Nat, n = p5 + 1 := ⟨_, rfl⟩
                obtain ⟨p7, hp7⟩ : ∃ n : Nat, n = p6 + 1 := ⟨_, rfl⟩
                have wp1 : IntKind.i64.wrap ((j4 : Int) + 1) = (p1 : Int) := by rw [IntKind.wrap_i64]; omega
                have wp2 : IntKind.i64.wrap ((j4 : Int) + 2) = (p2 : Int) := by rw [IntKind.wrap_i64]; omega
                have wp3 : IntKind.i64.wrap ((j4 : Int) + 3) = (p3 : Int) := by rw [IntKind.wrap_i64]; omega
                have wp4 : IntKind.i64.wrap ((j4 : Int) + 4) = (p4 : Int) := by rw [IntKind.wrap_i64]; omega
                have wp5 : IntKind.i64.wrap ((p4 : Int) + 1) = (p5 : Int) := by rw [IntKind.wrap_i64]; omega
                have wp6 : IntKind.i64.wrap ((p5 : Int) + 1) = (p6 : Int) := by rw [IntKind.wrap_i64]; omega
                have wp7 : IntKind.i64.wrap ((p6 : Int) + 1) = (p7 : Int) := by rw [IntKind.wrap_i64]; omega
                have g10 : (0 : Int) ≤ (p1 : Int) := by omega
                have g50 : (0 : Int) ≤ (p5 : Int) := by omega
                have g60 : (0 : Int) ≤ (p6 : Int) := by omega
                replace hp1 := hid hp1
                replace hp2 := hid hp2
                replace hp3 := hid hp3
                replace hp4 := hid hp4
                replace hp5 := hid hp5
                replace hp6 := hid hp6
                replace hp7 := hid hp7
                have x2 := hX.out.c2
                have hIs := hid hO.out.isM
                cases qm : Mat.mayM sel
                · have hq := hid qm
                  go_wp2_with fail
                  refine (cMay.out _ _ _ hIs.out).mono ?_
                  rw [hq.out]
                  rintro e Vm ⟨rfl, dn, rfl⟩
                  replace hO := hid (hO.out.below (below_drewN (n := dn) (Below.refl _ _)))
                  replace hX := hid (hX.out.below (below_drewN (n := dn) (Below.refl _ _)))
                  clear x2 hIs
                  have hfin := hid (show cmpP (kat l i) = none from by rw [hS.out, hq.out]; rfl)
                  clear cI cM cA cC cMay cW cP hD hsm
                  go_wp2
                  go_ret2
                  exact cmpD_no hX.out.low hfin.out
                · have hq := hid qm
                  go_wp2_with fail
                  refine (cMay.out _ _ _ hIs.out).mono ?_
                  rw [hq.out]
                  rintro e Vm ⟨rfl, dn, rfl⟩
                  replace hO := hid (hO.out.below (below_drewN (n := dn) (Below.refl _ _)))
                  replace hX := hid (hX.out.below (below_drewN (n := dn) (Below.refl _ _)))
                  clear x2 hIs
                  rw [hq.out, if_pos rfl] at hS
                  clear hq qm
                  cases q1 : isK 4 [91] (kat l j4)
                  · replace q1 := hid q1
                    go_wp2_with fail
                    refine (cI.out _ hX.out.low j4 4 [91]).mono ?_
                    rw [q1.out]
                    rintro e V4 ⟨rfl, vb⟩
                    replace hO := hid (hO.out.below vb)
                    replace hX := hid (hX.out.below vb)
                    clear vb
                    have hfin := hid (show cmpP (kat l i) = none from by rw [hS.out]; exact tailP_no1 q1.out)
                    clear cI cM cA cC cMay cW cP hD hsm
                    go_wp2
                    go_ret2
                    exact cmpD_no hX.out.low hfin.out
                  · replace q1 := hid q1
                    go_wp2_with fail
                    refine (cI.out _ hX.out.low j4 4 [91]).mono ?_
                    rw [q1.out]
                    rintro e V4 ⟨rfl, vb⟩
                    replace hO := hid (hO.out.below vb)
                    replace hX := hid (hX.out.below vb)
                    clear vb
                    have t1 := hid (isK_sign q1.out (by decide))
                    cases q2 : isK 2 [42] (kat l p1)
                    · replace q2 := hid q2
                      go_wp2_with fail
                      refine (cI.out _ hX.out.low p1 2 [42]).mono ?_
                      rw [q2.out]
                      rintro e V5 ⟨rfl, vb⟩
                      replace hO := hid (hO.out.below vb)
                      replace hX := hid (hX.out.below vb)
                      clear vb
                      have hfin := hid (show cmpP (kat l i) = none from by rw [hS.out, t1.out.2, ← hp1.out]; exact tailP_no2 q2.out)
                      clear cI cM cA cC cMay cW cP hD hsm
                      go_wp2
                      go_ret2
                      exact cmpD_no hX.out.low hfin.out
                    · replace q2 := hid q2
                      go_wp2_with fail
                      refine (cI.out _ hX.out.low p1 2 [42]).mono ?_
                      rw [q2.out]
                      rintro e V5 ⟨rfl, vb⟩
                      replace hO := hid (hO.out.below vb)
                      replace hX := hid (hX.out.below vb)
                      clear vb
                      obtain ⟨d, hd, hdl, -, -, hd2⟩ := isK_yes q2.out
                      have hdt := hid hd
                      have t2 := hid hd2
                      have g11 : (p1 : Int) < (l.length : Int) := by omega
                      clear hd2 hd
                      cases q3 : isK 4 [93] (kat l p2)
                      · replace q3 := hid q3
                        go_wp2_with fail
                        refine (cI.out _ hX.out.low p2 4 [93]).mono ?_
                        rw [q3.out]
                        rintro e V6 ⟨rfl, vb⟩
                        replace hO := hid (hO.out.below vb)
                        replace hX := hid (hX.out.below vb)
                        clear vb
                        have hfin := hid (show cmpP (kat l i) = none from by rw [hS.out, t1.out.2, ← hp1.out, t2.out, show p1 + 1 = p2 by have := hp1.out; have := hp2.out; omega]; exact tailP_no3 q3.out)
                        clear cI cM cA cC cMay cW cP hD hsm
                        go_wp2
                        go_ret2
                        exact cmpD_no hX.out.low hfin.out
                      · replace q3 := hid q3
                        go_wp2_with fail
                        refine (cI.out _ hX.out.low p2 4 [93]).mono ?_
                        rw [q3.out]
                        rintro e V6 ⟨rfl, vb⟩
                        replace hO := hid (hO.out.below vb)
                        replace hX := hid (hX.out.below vb)
                        clear vb
                        have t3 := hid (isK_sign q3.out (by decide))
                        cases q4 : isK 4 [41] (kat l p3)
                        · replace q4 := hid q4
                          go_wp2_with fail
                          refine (cI.out _ hX.out.low p3 4 [41]).mono ?_
                          rw [q4.out]
                          rintro e V7 ⟨rfl, vb⟩
                          replace hO := hid (hO.out.below vb)
                          replace hX := hid (hX.out.below vb)
                          clear vb
                          have hfin := hid (show cmpP (kat l i) = none from by rw [hS.out, t1.out.2, ← hp1.out, t2.out, show p1 + 1 = p2 by have := hp1.out; have := hp2.out; omega, t3.out.2, show p2 + 1 = p3 by have := hp2.out; have := hp3.out; omega]; exact tailP_no4 q4.out)
                          clear cI cM cA cC cMay cW cP hD hsm
                          go_wp2
                          go_ret2
                          exact cmpD_no hX.out.low hfin.out
                        · replace q4 := hid q4
                          go_wp2_with fail
                          refine (cI.out _ hX.out.low p3 4 [41]).mono ?_
                          rw [q4.out]
                          rintro e V7 ⟨rfl, vb⟩
                          replace hO := hid (hO.out.below vb)
                          replace hX := hid (hX.out.below vb)
                          clear vb
                          have t4 := hid (isK_sign q4.out (by decide))
                          have hT : Hid (cmpP (kat l i) = tailP (UInt8.ofNat k) sel ((4, [91]) :: (2, d.text) :: (4, [93]) :: (4, [41]) :: kat l p4)) := by
                            show _ = _
                            rw [hS.out, t1.out.2, ← hp1.out, t2.out, show p1 + 1 = p2 by have := hp1.out; have := hp2.out; omega, t3.out.2, show p2 + 1 = p3 by have := hp2.out; have := hp3.out; omega, t4.out.2, show p3 + 1 = p4 by have := hp3.out; have := hp4.out; omega]
                          have hl4 : p4 ≤ l.length := by have := t4.out.1; have := hp3.out; have := hp4.out; omega
                          clear hS t1 t2 t3 t4 q1 q2 q3 q4
                          have hdm := (hsm.out _ _ hdt.out)
                          obtain ⟨db, doff, rfl, hdc⟩ := (hD.out.below hX.out.low).at (k := p1) (by omega)
                          obtain ⟨-, dc, -, -⟩ := hdc _ _ hdt.out
                          unfold str at dc
                          clear hdc
                          have y3 := hX.out.c3
                          have f3 := frozen_of hX.out.at_ 3
                          go_wp2_with fail
                          refine (cW.out _ d.text (by omega)).mono ?_
                          rintro e Vw ⟨rfl, hVw⟩
                          obtain rfl := hVw.symm
                          have hX3 := hid (hX.out.set3 (winD d.text))
                          have hO3 := hid (ownM_set hO.out 3 (.int .i64 (winD d.text)))
                          clear hX hO dc
                          go_wp2_with fail
                          obtain ⟨U0, hU0⟩ : ∃ U0, V7.setCell ⟨w.heap.size, 3, none⟩ (.int .i64 (winD d.text)) = U0 := ⟨_, rfl⟩
                          rw [hU0] at hX3 hO3 ⊢
                          clear hU0 y3 f3
                          have hwd : Hid (∃ z, winD d.text = z) := ⟨_, rfl⟩
                          go_loopw [7] (fun kv wr => ∃ p : Nat, kv = .int .i64 (p : Int) ∧ p ≤ 6 ∧ Hid (BoxN w wr w.heap.size (k : Int) sv (winD d.text) 0 0) ∧ Hid (Mat.OwnM (w.heap.size + 1) wr sv sel) ∧ Hid (∀ j, j < p → isK 4 (cmpS j) (kat l p4) = false)) (fun kv _ => 6 - (intOf kv).toNat)
                          case atStart => exact ⟨0, rfl, by omega, hX3, hO3, fun j hj => by omega⟩
                          case round =>
                            clear hX3 hO3
                            obtain ⟨p, rfl, hp, hX, hO, hno⟩ := hrel
                            have z3 := hX.out.c3
                            by_cases hpk6 : p = 6
                            · subst hpk6
                              have hfin := hid (show cmpP (kat l i) = none by rw [hT.out]; exact tailP_no5 (.inl hno.out))
                              clear cI cM cA cC cMay cW cP hD hsm
                              go_wp2
                              go_ret2
                              exact cmpD_no hX.out.low hfin.out
                            have hp6' : (p : Int) < 6 := by omega
                            have hpe : ((p : Int) == 6) = false := by simp; omega
                            have ca := hid (cC.out wr p (by omega))
                            clear z3
                            go_wp2_with fail
                            refine ca.out.mono ?_
                            rintro e V0 ⟨rfl, vb⟩
                            replace hO := hid (hO.out.below vb)
                            replace hX := hid (hX.out.below vb)
                            clear vb ca
                            cases qp : isK 4 (cmpS p) (kat l p4)
                            · replace qp := hid qp
                              go_wp2_with fail
                              refine (cI.out _ hX.out.low p4 4 (cmpS p)).mono ?_
                              rw [qp.out]
                              rintro e V8 ⟨rfl, vb⟩
                              replace hO := hid (hO.out.below vb)
                              replace hX := hid (hX.out.below vb)
                              clear vb
                              have hno' : Hid (∀ j, j < p + 1 → isK 4 (cmpS j) (kat l p4) = false) := fun j hj => by
                                by_cases hjk : j = p
                                · rw [hjk]; exact qp.out
                                · exact hno.out j (by omega)
                              go_wp2
                              exact ⟨⟨p + 1, by simp, by omega, hX, hO, hno'⟩, by simp [intOf]; omega⟩
                            · replace qp := hid qp
                              go_wp2_with fail
                              refine (cI.out _ hX.out.low p4 4 (cmpS p)).mono ?_
                              rw [qp.out]
                              rintro e V8 ⟨rfl, vb⟩
                              replace hO := hid (hO.out.below vb)
                              replace hX := hid (hX.out.below vb)
                              clear vb
                              have ha := hid (isK_sign qp.out (cmp_of p (by omega)).2)
                              have z3 := hX.out.c3
                              clear hno qp
                              by_cases hw0 : winD d.text = 0
                              · have hfin := hid (show cmpP (kat l i) = none by rw [hT.out]; exact tailP_no5 (.inr hw0))
                                rw [hw0] at z3
                                clear cI cM cA cC cMay cW cP hD hsm
                                go_wp2
                                go_ret2
                                exact cmpD_no hX.out.low hfin.out
                              have q0 : (winD d.text == 0) = false := by simp [hw0]
                              have hT2 : Hid (cmpP (kat l i) = (numP (kat l p5)).map (fun q => (⟨UInt8.ofNat k, sel, winD d.text, UInt8.ofNat p, q.1⟩, q.2))) := by
                                show _ = _
                                rw [hT.out, ha.out.2, ← hp5.out]
                                exact tailP_go (by omega) hw0
                              have hl5 : p5 ≤ l.length := by have := ha.out.1; have := hp5.out; omega
                              have wpk : IntKind.u8.wrap (p : Int) = (p : Int) := by rw [IntKind.wrap_u8]; omega
                              have hp5' : p < 6 := by omega
                              have y4 := hX.out.all.2.2.1
                              have f4 := frozen_of hX.out.at_ 4
                              have hX4 := hid (hX.out.set4 (p : Int))
                              have hO4 := hid (ownM_set hO.out 4 (.int .u8 (p : Int)))
                              obtain ⟨U1, hU1⟩ : ∃ U1, V8.setCell ⟨w.heap.size, 4, none⟩ (.int .u8 (p : Int)) = U1 := ⟨_, rfl⟩
                              rw [hU1] at hX4 hO4
                              clear hX hO hT ha hw0
                              have hX := hX4
                              have hO := hO4
                              clear hX4 hO4
                              replace hU1 := hid hU1
                              cases qs : isK 4 [45] (kat l p5)
                              · replace qs := hid qs
                                go_wp2_with fail
                                rw [hU1.out]
                                refine (cI.out _ hX.out.low p5 4 [45]).mono ?_
                                rw [qs.out]
                                rintro e Vs ⟨rfl, vb⟩
                                replace hO := hid (hO.out.below vb)
                                replace hX := hid (hX.out.below vb)
                                clear vb
                                have hNk := hid (numP_else qs.out)
                                cases qn : isK 2 [42] (kat l p5)
                                · replace qn := hid qn
                                  go_wp2_with fail
                                  refine (cI.out _ hX.out.low p5 2 [42]).mono ?_
                                  rw [qn.out]
                                  rintro e V9 ⟨rfl, vb⟩
                                  replace hO := hid (hO.out.below vb)
                                  replace hX := hid (hX.out.below vb)
                                  clear vb
                                  have hfin := hid (show cmpP (kat l i) = none from by rw [hT2.out, hNk.out, numM_no qn.out]; rfl)
                                  clear cI cM cA cC cMay cW cP hD hsm
                                  go_wp2
                                  go_ret2
                                  exact cmpD_no hX.out.low hfin.out
                                · replace qn := hid qn
                                  go_wp2_with fail
                                  refine (cI.out _ hX.out.low p5 2 [42]).mono ?_
                                  rw [qn.out]
                                  rintro e V9 ⟨rfl, vb⟩
                                  replace hO := hid (hO.out.below vb)
                                  replace hX := hid (hX.out.below vb)
                                  clear vb
                                  obtain ⟨y, hy, hyl, -, -, hy2⟩ := isK_yes qn.out
                                  have hyt := hid hy
                                  have hNM : Hid (numM [] (kat l p5) = numM [] ((2, y.text) :: kat l p6)) := by
                                    show _ = _
                                    rw [hy2, ← hp6.out]
                                  have hnx : p6 ≤ l.length := by have := hp6.out; omega
                                  have g61 : (p5 : Int) < (l.length : Int) := by omega
                                  have hym := hsm.out _ _ hy
                                  obtain ⟨db', doff', e', hdc⟩ := (hD.out.below hX.out.low).at (k := p5) (by omega)
                                  cases e'
                                  obtain ⟨-, yc, -, -⟩ := hdc _ _ hy
                                  unfold str at yc
                                  clear hdc hy hy2 qn
                                  have hNN := hid (hT2.out)
                                  have sz1 : (9223372036854775807 < y.text.length) = False := eq_false (by omega)
                                  have cPr := hid (cP.out V9 (⟨#[]⟩ ++ ⟨y.text.toArray⟩) (by simp [ByteArray.size]; omega))
                                  have ecat : ((⟨#[]⟩ : ByteArray) ++ ⟨y.text.toArray⟩).data.toList = [] ++ y.text := by simp
                                  rw [ecat] at cPr
                                  clear ecat hyl
                                  have y5 := hX.out.all.2.2.2.1
                                  have f5 := frozen_of hX.out.at_ 5
                                  go_wp2_with fail
                                  refine cPr.out.mono ?_
                                  rintro e Vp ⟨rfl, hVp⟩
                                  obtain rfl := hVp.symm
                                  by_cases he : Num.parseE ([] ++ y.text) = 0
                                  · have hfinP : Hid (cmpP (kat l i) = some (⟨UInt8.ofNat k, sel, winD d.text, UInt8.ofNat p, Num.parseN ([] ++ y.text)⟩, kat l p6)) := by
                                      show _ = _
                                      rw [hT2.out, hNk.out, hNM.out, numM_go he]
                                      rfl
                                    rw [he]
                                    generalize Num.parseN ([] ++ y.text) = xv at *
                                    have hX5 := hid (hX.out.set5 xv)
                                    have hO5 := hid (ownM_set hO.out 5 (.int .i64 xv))
                                    obtain ⟨U2, hU2⟩ : ∃ U2, V9.setCell ⟨w.heap.size, 5, none⟩ (.int .i64 xv) = U2 := ⟨_, rfl⟩
                                    rw [hU2] at hX5 hO5
                                    obtain ⟨z0, z1, z4, z5, z6, z7⟩ := hX5.out.all
                                    have z2 := hX5.out.c2
                                    have z3 := hX5.out.c3
                                    have hfin := hid (cmpD_yes hX5.out hO5.out hk5 hp5' hnx hfinP.out)
                                    clear cI cM cA cC cMay cW cP hD hsm cPr hfinP he hX5 hO5 hX hO hT2 hNM hNN
                                    go_wp2
                                    go_ret2
                                    exact hfin.out
                                  · have hq : (Num.parseE ([] ++ y.text) != 0) = true := by simpa using he
                                    have hfin := hid (show cmpP (kat l i) = none by rw [hT2.out, hNk.out, hNM.out, numM_bad he]; rfl)
                                    clear cI cM cA cC cMay cW cP hD hsm cPr he
                                    generalize Num.parseE ([] ++ y.text) = pe at *
                                    generalize Num.parseN ([] ++ y.text) = xv at *
                                    go_wp2
                                    go_ret2
                                    exact cmpD_no hX.out.low hfin.out
                              · replace qs := hid qs
                                go_wp2_with fail
                                rw [hU1.out]
                                refine (cI.out _ hX.out.low p5 4 [45]).mono ?_
                                rw [qs.out]
                                rintro e Vs ⟨rfl, vb⟩
                                replace hO := hid (hO.out.below vb)
                                replace hX := hid (hX.out.below vb)
                                clear vb
                                have ts := hid (isK_sign qs.out (by decide))
                                have hNk : Hid (numP (kat l p5) = numM [45] (kat l p6)) := by
                                  show _ = _
                                  rw [ts.out.2, ← hp6.out]
                                  rfl
                                cases qn : isK 2 [42] (kat l p6)
                                · replace qn := hid qn
                                  go_wp2_with fail
                                  refine (cI.out _ hX.out.low p6 2 [42]).mono ?_
                                  rw [qn.out]
                                  rintro e V10 ⟨rfl, vb⟩
                                  replace hO := hid (hO.out.below vb)
                                  replace hX := hid (hX.out.below vb)
                                  clear vb
                                  have hfin := hid (show cmpP (kat l i) = none from by rw [hT2.out, hNk.out, numM_no qn.out]; rfl)
                                  clear cI cM cA cC cMay cW cP hD hsm
                                  go_wp2
                                  go_ret2
                                  exact cmpD_no hX.out.low hfin.out
                                · replace qn := hid qn
                                  go_wp2_with fail
                                  refine (cI.out _ hX.out.low p6 2 [42]).mono ?_
                                  rw [qn.out]
                                  rintro e V10 ⟨rfl, vb⟩
                                  replace hO := hid (hO.out.below vb)
                                  replace hX := hid (hX.out.below vb)
                                  clear vb
                                  obtain ⟨y, hy, hyl, -, -, hy2⟩ := isK_yes qn.out
                                  have hyt := hid hy
                                  have hNM : Hid (numM [45] (kat l p6) = numM [45] ((2, y.text) :: kat l p7)) := by
                                    show _ = _
                                    rw [hy2, ← hp7.out]
                                  have hnx : p7 ≤ l.length := by have := hp7.out; omega
                                  have g61 : (p6 : Int) < (l.length : Int) := by omega
                                  have hym := hsm.out _ _ hy
                                  obtain ⟨db', doff', e', hdc⟩ := (hD.out.below hX.out.low).at (k := p6) (by omega)
                                  cases e'
                                  obtain ⟨-, yc, -, -⟩ := hdc _ _ hy
                                  unfold str at yc
                                  clear hdc hy hy2 qn
                                  have hNN := hid (hT2.out)
                                  have sz1 : (9223372036854775807 < 1 + y.text.length) = False := eq_false (by omega)
                                  have cPr := hid (cP.out V10 (⟨#[45]⟩ ++ ⟨y.text.toArray⟩) (by simp [ByteArray.size]; omega))
                                  have ecat : ((⟨#[45]⟩ : ByteArray) ++ ⟨y.text.toArray⟩).data.toList = [45] ++ y.text := by simp
                                  rw [ecat] at cPr
                                  clear ecat hyl
                                  have y5 := hX.out.all.2.2.2.1
                                  have f5 := frozen_of hX.out.at_ 5
                                  go_wp2_with fail
                                  refine cPr.out.mono ?_
                                  rintro e Vp ⟨rfl, hVp⟩
                                  obtain rfl := hVp.symm
                                  by_cases he : Num.parseE ([45] ++ y.text) = 0
                                  · have hfinP : Hid (cmpP (kat l i) = some (⟨UInt8.ofNat k, sel, winD d.text, UInt8.ofNat p, Num.parseN ([45] ++ y.text)⟩, kat l p7)) := by
                                      show _ = _
                                      rw [hT2.out, hNk.out, hNM.out, numM_go he]
                                      rfl
                                    rw [he]
                                    generalize Num.parseN ([45] ++ y.text) = xv at *
                                    have hX5 := hid (hX.out.set5 xv)
                                    have hO5 := hid (ownM_set hO.out 5 (.int .i64 xv))
                                    obtain ⟨U2, hU2⟩ : ∃ U2, V10.setCell ⟨w.heap.size, 5, none⟩ (.int .i64 xv) = U2 := ⟨_, rfl⟩
                                    rw [hU2] at hX5 hO5
                                    obtain ⟨z0, z1, z4, z5, z6, z7⟩ := hX5.out.all
                                    have z2 := hX5.out.c2
                                    have z3 := hX5.out.c3
                                    have hfin := hid (cmpD_yes hX5.out hO5.out hk5 hp5' hnx hfinP.out)
                                    clear cI cM cA cC cMay cW cP hD hsm cPr hfinP he hX5 hO5 hX hO hT2 hNM hNN
                                    go_wp2
                                    go_ret2
                                    exact hfin.out
                                  · have hq : (Num.parseE ([45] ++ y.text) != 0) = true := by simpa using he
                                    have hfin := hid (show cmpP (kat l i) = none by rw [hT2.out, hNk.out, hNM.out, numM_bad he]; rfl)
                                    clear cI cM cA cC cMay cW cP hD hsm cPr he
                                    generalize Num.parseE ([45] ++ y.text) = pe at *
                                    generalize Num.parseN ([45] ++ y.text) = xv at *
                                    go_wp2
                                    go_ret2
                                    exact cmpD_no hX.out.low hfin.out
          · replace qd := hid qd
            go_wp2_with fail
            obtain ⟨U0, hU0⟩ : ∃ U0, V3.setCell ⟨w.heap.size, 1, none⟩ (.int .u8 (k : Int)) = U0 := ⟨_, rfl⟩
            rw [hU0] at hX1 hO1 ⊢
            clear hU0 y1 f1
            refine (cI.out _ hX1.out.low i3 4 [125]).mono ?_
            rw [qd.out]
            rintro e V ⟨rfl, vb⟩
            have hO := hid (hO1.out.below vb)
            have hX := hid (hX1.out.below vb)
            clear vb hO1 hX1
            have hd := hid (isK_sign qd.out (by decide))
            obtain ⟨i4, hi4⟩ : ∃ n : Nat, n = i3 + 1 := ⟨_, rfl⟩
            have wi4 : IntKind.i64.wrap ((i3 : Int) + 1) = (i4 : Int) := by rw [IntKind.wrap_i64]; omega
            have lp : i4 ≤ 9000004 := by omega
            have hlp : i4 ≤ l.length := by have := hd.out.1; omega
            have hS : Hid (cmpP (kat l i) = if Mat.mayM [] then tailP (UInt8.ofNat k) [] (kat l i4) else none) := by
              show _ = _
              rw [hC.out, hd.out.2, ← hi4]
              rfl
            replace hi4 := hid hi4
            clear hC hd qd
            obtain ⟨sel, hsel⟩ : ∃ sel : List Mat.Mt, sel = [] := ⟨_, rfl⟩
            rw [← hsel] at hS hO
            obtain ⟨sv, hsv⟩ : ∃ sv : Value, sv = .slice none 0 0 := ⟨_, rfl⟩
            rw [← hsv] at hX hO
            replace hsel := hid hsel
            replace hsv := hid hsv
            obtain ⟨p1, hp1⟩ : ∃ n : Nat, n = i4 + 1 := ⟨_, rfl⟩
            obtain ⟨p2, hp2⟩ : ∃ n : Nat, n = i4 + 2 := ⟨_, rfl⟩
            obtain ⟨p3, hp3⟩ : ∃ n : Nat, n = i4 + 3 := ⟨_, rfl⟩
            obtain ⟨p4, hp4⟩ : ∃ n : Nat, n = i4 + 4 := ⟨_, rfl⟩
            obtain ⟨p5, hp5⟩ : ∃ n : Nat, n = p4 + 1 := ⟨_, rfl⟩
            obtain ⟨p6, hp6⟩ : ∃ n : Nat, n = p5 + 1 := ⟨_, rfl⟩
            obtain ⟨p7, hp7⟩ : ∃ n : Nat, n = p6 + 1 := ⟨_, rfl⟩
            have wp1 : IntKind.i64.wrap ((i4 : Int) + 1) = (p1 : Int) := by rw [IntKind.wrap_i64]; omega
            have wp2 : IntKind.i64.wrap ((i4 : Int) + 2) = (p2 : Int) := by rw [IntKind.wrap_i64]; omega
            have wp3 : IntKind.i64.wrap ((i4 : Int) + 3) = (p3 : Int) := by rw [IntKind.wrap_i64]; omega
            have wp4 : IntKind.i64.wrap ((i4 : Int) + 4) = (p4 : Int) := by rw [IntKind.wrap_i64]; omega
            have wp5 : IntKind.i64.wrap ((p4 : Int) + 1) = (p5 : Int) := by rw [IntKind.wrap_i64]; omega
            have wp6 : IntKind.i64.wrap ((p5 : Int) + 1) = (p6 : Int) := by rw [IntKind.wrap_i64]; omega
            have wp7 : IntKind.i64.wrap ((p6 : Int) + 1) = (p7 : Int) := by rw [IntKind.wrap_i64]; omega
            have g10 : (0 : Int) ≤ (p1 : Int) := by omega
            have g50 : (0 : Int) ≤ (p5 : Int) := by omega
            have g60 : (0 : Int) ≤ (p6 : Int) := by omega
            replace hp1 := hid hp1
            replace hp2 := hid hp2
            replace hp3 := hid hp3
            replace hp4 := hid hp4
            replace hp5 := hid hp5
            replace hp6 := hid hp6
            replace hp7 := hid hp7
            have x2 := hX.out.c2
            have hIs := hid hO.out.isM
            cases qm : Mat.mayM sel
            · have hq := hid qm
              go_wp2_with fail
              refine (cMay.out _ _ _ hIs.out).mono ?_
              rw [hq.out]
              rintro e Vm ⟨rfl, dn, rfl⟩
              replace hO := hid (hO.out.below (below_drewN (n := dn) (Below.refl _ _)))
              replace hX := hid (hX.out.below (below_drewN (n := dn) (Below.refl _ _)))
              clear x2 hIs
              have hfin := hid (show cmpP (kat l i) = none from by rw [hS.out, hq.out]; rfl)
              clear cI cM cA cC cMay cW cP hD hsm
              go_wp2
              go_ret2
              exact cmpD_no hX.out.low hfin.out
            · have hq := hid qm
              go_wp2_with fail
              refine (cMay.out _ _ _ hIs.out).mono ?_
              rw [hq.out]
              rintro e Vm ⟨rfl, dn, rfl⟩
              replace hO := hid (hO.out.below (below_drewN (n := dn) (Below.refl _ _)))
              replace hX := hid (hX.out.below (below_drewN (n := dn) (Below.refl _ _)))
              clear x2 hIs
              rw [hq.out, if_pos rfl] at hS
              clear hq qm
              cases q1 : isK 4 [91] (kat l i4)
              · replace q1 := hid q1
                go_wp2_with fail
                refine (cI.out _ hX.out.low i4 4 [91]).mono ?_
                rw [q1.out]
                rintro e V11 ⟨rfl, vb⟩
                replace hO := hid (hO.out.below vb)
                replace hX := hid (hX.out.below vb)
                clear vb
                have hfin := hid (show cmpP (kat l i) = none from by rw [hS.out]; exact tailP_no1 q1.out)
                clear cI cM cA cC cMay cW cP hD hsm
                go_wp2
                go_ret2
                exact cmpD_no hX.out.low hfin.out
              · replace q1 := hid q1
                go_wp2_with fail
                refine (cI.out _ hX.out.low i4 4 [91]).mono ?_
                rw [q1.out]
                rintro e V11 ⟨rfl, vb⟩
                replace hO := hid (hO.out.below vb)
                replace hX := hid (hX.out.below vb)
                clear vb
                have t1 := hid (isK_sign q1.out (by decide))
                cases q2 : isK 2 [42] (kat l p1)
                · replace q2 := hid q2
                  go_wp2_with fail
                  refine (cI.out _ hX.out.low p1 2 [42]).mono ?_
                  rw [q2.out]
                  rintro e V12 ⟨rfl, vb⟩
                  replace hO := hid (hO.out.below vb)
                  replace hX := hid (hX.out.below vb)
                  clear vb
                  have hfin := hid (show cmpP (kat l i) = none from by rw [hS.out, t1.out.2, ← hp1.out]; exact tailP_no2 q2.out)
                  clear cI cM cA cC cMay cW cP hD hsm
                  go_wp2
                  go_ret2
                  exact cmpD_no hX.out.low hfin.out
                · replace q2 := hid q2
                  go_wp2_with fail
                  refine (cI.out _ hX.out.low p1 2 [42]).mono ?_
                  rw [q2.out]
                  rintro e V12 ⟨rfl, vb⟩
                  replace hO := hid (hO.out.below vb)
                  replace hX := hid (hX.out.below vb)
                  clear vb
                  obtain ⟨d, hd, hdl, -, -, hd2⟩ := isK_yes q2.out
                  have hdt := hid hd
                  have t2 := hid hd2
                  have g11 : (p1 : Int) < (l.length : Int) := by omega
                  clear hd2 hd
                  cases q3 : isK 4 [93] (kat l p2)
                  · replace q3 := hid q3
                    go_wp2_with fail
                    refine (cI.out _ hX.out.low p2 4 [93]).mono ?_
                    rw [q3.out]
                    rintro e V13 ⟨rfl, vb⟩
                    replace hO := hid (hO.out.below vb)
                    replace hX := hid (hX.out.below vb)
                    clear vb
                    have hfin := hid (show cmpP (kat l i) = none from by rw [hS.out, t1.out.2, ← hp1.out, t2.out, show p1 + 1 = p2 by have := hp1.out; have := hp2.out; omega]; exact tailP_no3 q3.out)
                    clear cI cM cA cC cMay cW cP hD hsm
                    go_wp2
                    go_ret2
                    exact cmpD_no hX.out.low hfin.out
                  · replace q3 := hid q3
                    go_wp2_with fail
                    refine (cI.out _ hX.out.low p2 4 [93]).mono ?_
                    rw [q3.out]
                    rintro e V13 ⟨rfl, vb⟩
                    replace hO := hid (hO.out.below vb)
                    replace hX := hid (hX.out.below vb)
                    clear vb
                    have t3 := hid (isK_sign q3.out (by decide))
                    cases q4 : isK 4 [41] (kat l p3)
                    · replace q4 := hid q4
                      go_wp2_with fail
                      refine (cI.out _ hX.out.low p3 4 [41]).mono ?_
                      rw [q4.out]
                      rintro e V14 ⟨rfl, vb⟩
                      replace hO := hid (hO.out.below vb)
                      replace hX := hid (hX.out.below vb)
                      clear vb
                      have hfin := hid (show cmpP (kat l i) = none from by rw [hS.out, t1.out.2, ← hp1.out, t2.out, show p1 + 1 = p2 by have := hp1.out; have := hp2.out; omega, t3.out.2, show p2 + 1 = p3 by have := hp2.out; have := hp3.out; omega]; exact tailP_no4 q4.out)
                      clear cI cM cA cC cMay cW cP hD hsm
                      go_wp2
                      go_ret2
                      exact cmpD_no hX.out.low hfin.out
                    · replace q4 := hid q4
                      go_wp2_with fail
                      refine (cI.out _ hX.out.low p3 4 [41]).mono ?_
                      rw [q4.out]
                      rintro e V14 ⟨rfl, vb⟩
                      replace hO := hid (hO.out.below vb)
                      replace hX := hid (hX.out.below vb)
                      clear vb
                      have t4 := hid (isK_sign q4.out (by decide))
                      have hT : Hid (cmpP (kat l i) = tailP (UInt8.ofNat k) sel ((4, [91]) :: (2, d.text) :: (4, [93]) :: (4, [41]) :: kat l p4)) := by
                        show _ = _
                        rw [hS.out, t1.out.2, ← hp1.out, t2.out, show p1 + 1 = p2 by have := hp1.out; have := hp2.out; omega, t3.out.2, show p2 + 1 = p3 by have := hp2.out; have := hp3.out; omega, t4.out.2, show p3 + 1 = p4 by have := hp3.out; have := hp4.out; omega]
                      have hl4 : p4 ≤ l.length := by have := t4.out.1; have := hp3.out; have := hp4.out; omega
                      clear hS t1 t2 t3 t4 q1 q2 q3 q4
                      have hdm := (hsm.out _ _ hdt.out)
                      obtain ⟨db, doff, rfl, hdc⟩ := (hD.out.below hX.out.low).at (k := p1) (by omega)
                      obtain ⟨-, dc, -, -⟩ := hdc _ _ hdt.out
                      unfold str at dc
                      clear hdc
                      have y3 := hX.out.c3
                      have f3 := frozen_of hX.out.at_ 3
                      go_wp2_with fail
                      refine (cW.out _ d.text (by omega)).mono ?_
                      rintro e Vw ⟨rfl, hVw⟩
                      obtain rfl := hVw.symm
                      have hX3 := hid (hX.out.set3 (winD d.text))
                      have hO3 := hid (ownM_set hO.out 3 (.int .i64 (winD d.text)))
                      clear hX hO dc
                      go_wp2_with fail
                      obtain ⟨U0, hU0⟩ : ∃ U0, V14.setCell ⟨w.heap.size, 3, none⟩ (.int .i64 (winD d.text)) = U0 := ⟨_, rfl⟩
                      rw [hU0] at hX3 hO3 ⊢
                      clear hU0 y3 f3
                      have hwd : Hid (∃ z, winD d.text = z) := ⟨_, rfl⟩
                      go_loopw [7] (fun kv wr => ∃ p : Nat, kv = .int .i64 (p : Int) ∧ p ≤ 6 ∧ Hid (BoxN w wr w.heap.size (k : Int) sv (winD d.text) 0 0) ∧ Hid (Mat.OwnM (w.heap.size + 1) wr sv sel) ∧ Hid (∀ j, j < p → isK 4 (cmpS j) (kat l p4) = false)) (fun kv _ => 6 - (intOf kv).toNat)
                      case atStart => exact ⟨0, rfl, by omega, hX3, hO3, fun j hj => by omega⟩
                      case round =>
                        clear hX3 hO3
                        obtain ⟨p, rfl, hp, hX, hO, hno⟩ := hrel
                        have z3 := hX.out.c3
                        by_cases hpk6 : p = 6
                        · subst hpk6
                          have hfin := hid (show cmpP (kat l i) = none by rw [hT.out]; exact tailP_no5 (.inl hno.out))
                          clear cI cM cA cC cMay cW cP hD hsm
                          go_wp2
                          go_ret2
                          exact cmpD_no hX.out.low hfin.out
                        have hp6' : (p : Int) < 6 := by omega
                        have hpe : ((p : Int) == 6) = false := by simp; omega
                        have ca := hid (cC.out wr p (by omega))
                        clear z3
                        go_wp2_with fail
                        refine ca.out.mono ?_
                        rintro e V0 ⟨rfl, vb⟩
                        replace hO := hid (hO.out.below vb)
                        replace hX := hid (hX.out.below vb)
                        clear vb ca
                        cases qp : isK 4 (cmpS p) (kat l p4)
                        · replace qp := hid qp
                          go_wp2_with fail
                          refine (cI.out _ hX.out.low p4 4 (cmpS p)).mono ?_
                          rw [qp.out]
                          rintro e V15 ⟨rfl, vb⟩
                          replace hO := hid (hO.out.below vb)
                          replace hX := hid (hX.out.below vb)
                          clear vb
                          have hno' : Hid (∀ j, j < p + 1 → isK 4 (cmpS j) (kat l p4) = false) := fun j hj => by
                            by_cases hjk : j = p
                            · rw [hjk]; exact qp.out
                            · exact hno.out j (by omega)
                          go_wp2
                          exact ⟨⟨p + 1, by simp, by omega, hX, hO, hno'⟩, by simp [intOf]; omega⟩
                        · replace qp := hid qp
                          go_wp2_with fail
                          refine (cI.out _ hX.out.low p4 4 (cmpS p)).mono ?_
                          rw [qp.out]
                          rintro e V15 ⟨rfl, vb⟩
                          replace hO := hid (hO.out.below vb)
                          replace hX := hid (hX.out.below vb)
                          clear vb
                          have ha := hid (isK_sign qp.out (cmp_of p (by omega)).2)
                          have z3 := hX.out.c3
                          clear hno qp
                          by_cases hw0 : winD d.text = 0
                          · have hfin := hid (show cmpP (kat l i) = none by rw [hT.out]; exact tailP_no5 (.inr hw0))
                            rw [hw0] at z3
                            clear cI cM cA cC cMay cW cP hD hsm
                            go_wp2
                            go_ret2
                            exact cmpD_no hX.out.low hfin.out
                          have q0 : (winD d.text == 0) = false := by simp [hw0]
                          have hT2 : Hid (cmpP (kat l i) = (numP (kat l p5)).map (fun q => (⟨UInt8.ofNat k, sel, winD d.text, UInt8.ofNat p, q.1⟩, q.2))) := by
                            show _ = _
                            rw [hT.out, ha.out.2, ← hp5.out]
                            exact tailP_go (by omega) hw0
                          have hl5 : p5 ≤ l.length := by have := ha.out.1; have := hp5.out; omega
                          have wpk : IntKind.u8.wrap (p : Int) = (p : Int) := by rw [IntKind.wrap_u8]; omega
                          have hp5' : p < 6 := by omega
                          have y4 := hX.out.all.2.2.1
                          have f4 := frozen_of hX.out.at_ 4
                          have hX4 := hid (hX.out.set4 (p : Int))
                          have hO4 := hid (ownM_set hO.out 4 (.int .u8 (p : Int)))
                          obtain ⟨U1, hU1⟩ : ∃ U1, V15.setCell ⟨w.heap.size, 4, none⟩ (.int .u8 (p : Int)) = U1 := ⟨_, rfl⟩
                          rw [hU1] at hX4 hO4
                          clear hX hO hT ha hw0
                          have hX := hX4
                          have hO := hO4
                          clear hX4 hO4
                          replace hU1 := hid hU1
                          cases qs : isK 4 [45] (kat l p5)
                          · replace qs := hid qs
                            go_wp2_with fail
                            rw [hU1.out]
                            refine (cI.out _ hX.out.low p5 4 [45]).mono ?_
                            rw [qs.out]
                            rintro e Vs ⟨rfl, vb⟩
                            replace hO := hid (hO.out.below vb)
                            replace hX := hid (hX.out.below vb)
                            clear vb
                            have hNk := hid (numP_else qs.out)
                            cases qn : isK 2 [42] (kat l p5)
                            · replace qn := hid qn
                              go_wp2_with fail
                              refine (cI.out _ hX.out.low p5 2 [42]).mono ?_
                              rw [qn.out]
                              rintro e V16 ⟨rfl, vb⟩
                              replace hO := hid (hO.out.below vb)
                              replace hX := hid (hX.out.below vb)
                              clear vb
                              have hfin := hid (show cmpP (kat l i) = none from by rw [hT2.out, hNk.out, numM_no qn.out]; rfl)
                              clear cI cM cA cC cMay cW cP hD hsm
                              go_wp2
                              go_ret2
                              exact cmpD_no hX.out.low hfin.out
                            · replace qn := hid qn
                              go_wp2_with fail
                              refine (cI.out _ hX.out.low p5 2 [42]).mono ?_
                              rw [qn.out]
                              rintro e V16 ⟨rfl, vb⟩
                              replace hO := hid (hO.out.below vb)
                              replace hX := hid (hX.out.below vb)
                              clear vb
                              obtain ⟨y, hy, hyl, -, -, hy2⟩ := isK_yes qn.out
                              have hyt := hid hy
                              have hNM : Hid (numM [] (kat l p5) = numM [] ((2, y.text) :: kat l p6)) := by
                                show _ = _
                                rw [hy2, ← hp6.out]
                              have hnx : p6 ≤ l.length := by have := hp6.out; omega
                              have g61 : (p5 : Int) < (l.length : Int) := by omega
                              have hym := hsm.out _ _ hy
                              obtain ⟨db', doff', e', hdc⟩ := (hD.out.below hX.out.low).at (k := p5) (by omega)
                              cases e'
                              obtain ⟨-, yc, -, -⟩ := hdc _ _ hy
                              unfold str at yc
                              clear hdc hy hy2 qn
                              have hNN := hid (hT2.out)
                              have sz1 : (9223372036854775807 < y.text.length) = False := eq_false (by omega)
                              have cPr := hid (cP.out V16 (⟨#[]⟩ ++ ⟨y.text.toArray⟩) (by simp [ByteArray.size]; omega))
                              have ecat : ((⟨#[]⟩ : ByteArray) ++ ⟨y.text.toArray⟩).data.toList = [] ++ y.text := by simp
                              rw [ecat] at cPr
                              clear ecat hyl
                              have y5 := hX.out.all.2.2.2.1
                              have f5 := frozen_of hX.out.at_ 5
                              go_wp2_with fail
                              refine cPr.out.mono ?_
                              rintro e Vp ⟨rfl, hVp⟩
                              obtain rfl := hVp.symm
                              by_cases he : Num.parseE ([] ++ y.text) = 0
                              · have hfinP : Hid (cmpP (kat l i) = some (⟨UInt8.ofNat k, sel, winD d.text, UInt8.ofNat p, Num.parseN ([] ++ y.text)⟩, kat l p6)) := by
                                  show _ = _
                                  rw [hT2.out, hNk.out, hNM.out, numM_go he]
                                  rfl
                                rw [he]
                                generalize Num.parseN ([] ++ y.text) = xv at *
                                have hX5 := hid (hX.out.set5 xv)
                                have hO5 := hid (ownM_set hO.out 5 (.int .i64 xv))
                                obtain ⟨U2, hU2⟩ : ∃ U2, V16.setCell ⟨w.heap.size, 5, none⟩ (.int .i64 xv) = U2 := ⟨_, rfl⟩
                                rw [hU2] at hX5 hO5
                                obtain ⟨z0, z1, z4, z5, z6, z7⟩ := hX5.out.all
                                have z2 := hX5.out.c2
                                have z3 := hX5.out.c3
                                have hfin := hid (cmpD_yes hX5.out hO5.out hk5 hp5' hnx hfinP.out)
                                clear cI cM cA cC cMay cW cP hD hsm cPr hfinP he hX5 hO5 hX hO hT2 hNM hNN
                                go_wp2
                                go_ret2
                                exact hfin.out
                              · have hq : (Num.parseE ([] ++ y.text) != 0) = true := by simpa using he
                                have hfin := hid (show cmpP (kat l i) = none by rw [hT2.out, hNk.out, hNM.out, numM_bad he]; rfl)
                                clear cI cM cA cC cMay cW cP hD hsm cPr he
                                generalize Num.parseE ([] ++ y.text) = pe at *
                                generalize Num.parseN ([] ++ y.text) = xv at *
                                go_wp2
                                go_ret2
                                exact cmpD_no hX.out.low hfin.out
                          · replace qs := hid qs
                            go_wp2_with fail
                            rw [hU1.out]
                            refine (cI.out _ hX.out.low p5 4 [45]).mono ?_
                            rw [qs.out]
                            rintro e Vs ⟨rfl, vb⟩
                            replace hO := hid (hO.out.below vb)
                            replace hX := hid (hX.out.below vb)
                            clear vb
                            have ts := hid (isK_sign qs.out (by decide))
                            have hNk : Hid (numP (kat l p5) = numM [45] (kat l p6)) := by
                              show _ = _
                              rw [ts.out.2, ← hp6.out]
                              rfl
                            cases qn : isK 2 [42] (kat l p6)
                            · replace qn := hid qn
                              go_wp2_with fail
                              refine (cI.out _ hX.out.low p6 2 [42]).mono ?_
                              rw [qn.out]
                              rintro e V17 ⟨rfl, vb⟩
                              replace hO := hid (hO.out.below vb)
                              replace hX := hid (hX.out.below vb)
                              clear vb
                              have hfin := hid (show cmpP (kat l i) = none from by rw [hT2.out, hNk.out, numM_no qn.out]; rfl)
                              clear cI cM cA cC cMay cW cP hD hsm
                              go_wp2
                              go_ret2
                              exact cmpD_no hX.out.low hfin.out
                            · replace qn := hid qn
                              go_wp2_with fail
                              refine (cI.out _ hX.out.low p6 2 [42]).mono ?_
                              rw [qn.out]
                              rintro e V17 ⟨rfl, vb⟩
                              replace hO := hid (hO.out.below vb)
                              replace hX := hid (hX.out.below vb)
                              clear vb
                              obtain ⟨y, hy, hyl, -, -, hy2⟩ := isK_yes qn.out
                              have hyt := hid hy
                              have hNM : Hid (numM [45] (kat l p6) = numM [45] ((2, y.text) :: kat l p7)) := by
                                show _ = _
                                rw [hy2, ← hp7.out]
                              have hnx : p7 ≤ l.length := by have := hp7.out; omega
                              have g61 : (p6 : Int) < (l.length : Int) := by omega
                              have hym := hsm.out _ _ hy
                              obtain ⟨db', doff', e', hdc⟩ := (hD.out.below hX.out.low).at (k := p6) (by omega)
                              cases e'
                              obtain ⟨-, yc, -, -⟩ := hdc _ _ hy
                              unfold str at yc
                              clear hdc hy hy2 qn
                              have hNN := hid (hT2.out)
                              have sz1 : (9223372036854775807 < 1 + y.text.length) = False := eq_false (by omega)
                              have cPr := hid (cP.out V17 (⟨#[45]⟩ ++ ⟨y.text.toArray⟩) (by simp [ByteArray.size]; omega))
                              have ecat : ((⟨#[45]⟩ : ByteArray) ++ ⟨y.text.toArray⟩).data.toList = [45] ++ y.text := by simp
                              rw [ecat] at cPr
                              clear ecat hyl
                              have y5 := hX.out.all.2.2.2.1
                              have f5 := frozen_of hX.out.at_ 5
                              go_wp2_with fail
                              refine cPr.out.mono ?_
                              rintro e Vp ⟨rfl, hVp⟩
                              obtain rfl := hVp.symm
                              by_cases he : Num.parseE ([45] ++ y.text) = 0
                              · have hfinP : Hid (cmpP (kat l i) = some (⟨UInt8.ofNat k, sel, winD d.text, UInt8.ofNat p, Num.parseN ([45] ++ y.text)⟩, kat l p7)) := by
                                  show _ = _
                                  rw [hT2.out, hNk.out, hNM.out, numM_go he]
                                  rfl
                                rw [he]
                                generalize Num.parseN ([45] ++ y.text) = xv at *
                                have hX5 := hid (hX.out.set5 xv)
                                have hO5 := hid (ownM_set hO.out 5 (.int .i64 xv))
                                obtain ⟨U2, hU2⟩ : ∃ U2, V17.setCell ⟨w.heap.size, 5, none⟩ (.int .i64 xv) = U2 := ⟨_, rfl⟩
                                rw [hU2] at hX5 hO5
                                obtain ⟨z0, z1, z4, z5, z6, z7⟩ := hX5.out.all
                                have z2 := hX5.out.c2
                                have z3 := hX5.out.c3
                                have hfin := hid (cmpD_yes hX5.out hO5.out hk5 hp5' hnx hfinP.out)
                                clear cI cM cA cC cMay cW cP hD hsm cPr hfinP he hX5 hO5 hX hO hT2 hNM hNN
                                go_wp2
                                go_ret2
                                exact hfin.out
                              · have hq : (Num.parseE ([45] ++ y.text) != 0) = true := by simpa using he
                                have hfin := hid (show cmpP (kat l i) = none by rw [hT2.out, hNk.out, hNM.out, numM_bad he]; rfl)
                                clear cI cM cA cC cMay cW cP hD hsm cPr he
                                generalize Num.parseE ([45] ++ y.text) = pe at *
                                generalize Num.parseN ([45] ++ y.text) = xv at *
                                go_wp2
                                go_ret2
                                exact cmpD_no hX.out.low hfin.out
end Go.Proofs.YtjhodmpgggaknaaGreatDoor
