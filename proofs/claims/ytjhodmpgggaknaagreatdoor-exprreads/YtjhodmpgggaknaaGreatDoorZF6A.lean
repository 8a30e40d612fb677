/- The document's rows. -/
import Derived.Test.YtjhodmpgggaknaaGreatDoorZF5
namespace Go.Proofs.YtjhodmpgggaknaaGreatDoor
open Go.RowKit Go.Shelf Go.Maps
set_option maxRecDepth 100000 in
set_option maxHeartbeats 4000000 in
theorem rowOr_any {w : World} {v : Value} {l : List Tk} (h : IsDs w v l) (hl : l.length ≤ 8000000) (i base : Nat) (hi : i ≤ l.length) (hb : base ≤ i)
    (hpart : ∀ (W : World) (i' base' : Nat), Below w.heap.size w W → i ≤ i' → i' ≤ l.length → base' ≤ i' → Calls Tryz.prog 61 #[v, .int .i64 (i' : Int), .int .i64 (base' : Int), .string ⟨([111, 114] : Tx).toArray⟩] W (RowD l (partOf true) i' base' W)) :
    Calls Tryz.prog 40 #[v, .int .i64 (i : Int), .int .i64 (base : Int), .string ⟨([111, 114] : Tx).toArray⟩] w (RowD l .or i base w) := by
  have cI := hid (fun W (hb : Below w.heap.size w W) p => is_low (h.below hb) p 1 [111, 114])
  have cP := hid hpart
  obtain ⟨a, c, rfl⟩ := h.slice
  have hl8 := hid hl
  have hbi := hid hb
  have hil := hid hi
  clear h hpart hl hi hb
  go_enter Tryz.func40, Tryz.ntmps40
  go_wp2_with fail
  refine (cP.out w i base (Below.refl _ _) (Nat.le_refl _) hil.out hbi.out).mono ?_
  intro e w1 hr
  obtain ⟨ov, nv, rfl, hS⟩ := rowS_start hr
  replace hS := hid hS
  clear hr
  go_wp2_with fail
  go_loopw [10, 11] (fun ov nv wr => Hid (RowS l true i base w ov nv wr)) (fun _ nv _ => rowM l.length nv)
  case atStart => exact hS
  case round =>
    clear hS
    obtain ⟨hlow, ⟨h1, ns, sa, sc, rfl, rfl, h2, h3⟩ | ⟨t, j, sa, sc, h1, h2, h3, h4, rfl, rfl, h5⟩⟩ := hrel.out
    · have hfin : Hid (RowD l .or i base w (.returned (.tuple #[.slice sa ns.length sc, .int .i64 (-1)])) wr) := ⟨hlow, .inl ⟨h1, _, ns, rfl, h2, h3⟩⟩
      clear hlow h1 h2 h3 hrel cI cP
      go_wp2
      go_ret2
      exact hfin.out
    · have hj0 : (0 : Int) ≤ (j : Int) := by omega
      have hO := hid h5
      have hL := hid hlow
      have hE := hid h1
      have lt := hid h4
      clear hrel h5 hlow h1
      cases q : isK 1 [111, 114] (kat l j)
      · have hfin : Hid (∀ W', Below w.heap.size w W' → OwnN w.heap.size W' (.slice sa t.size sc) (flat base t) → RowD l .or i base w (.returned (.tuple #[.slice sa t.size sc, .int .i64 (j : Int)])) W') := fun W' hb' ho' => ⟨hb', .inr ⟨t, j, _, by
          show pE (levOf true) _ = _
          rw [hE.out]
          exact more_stop (fun x r e => by
            rintro rfl
            exact isK_no q r e), h2, h3, lt.out, rfl, ho'⟩⟩
        replace q := hid q
        go_wp2_with fail
        refine (cI.out _ hL.out j).mono ?_
        rw [q.out]
        rintro e V ⟨rfl, vb⟩
        have hfin2 := hid (hfin.out V (low' hL.out vb) (hO.out.below vb))
        clear hfin cI cP hO hL hE vb
        go_wp2
        go_ret2
        exact hfin2.out
      · have hq := isK_sign q (by decide)
        have hK := hid hq.2
        have hjl := hq.1
        replace q := hid q
        clear hq
        obtain ⟨j1, hj1⟩ : ∃ n : Nat, n = j + 1 := ⟨_, rfl⟩
        obtain ⟨b1, hb1⟩ : ∃ n : Nat, n = base + t.size := ⟨_, rfl⟩
        have tl : t.size ≤ 8000000 := by have := hl8.out; have := lt.out; omega
        have bl : base ≤ 8000000 := by have := hl8.out; have := hbi.out; have := hil.out; omega
        have tp := t.pos
        have v1 : IntKind.i64.wrap ((base : Int) + (t.size : Int)) = (b1 : Int) := by rw [IntKind.wrap_i64]; omega
        have v2 : IntKind.i64.wrap ((b1 : Int) - 1) = (b1 : Int) - 1 := by rw [IntKind.wrap_i64]; omega
        have v3 : IntKind.i64.wrap ((j : Int) + 1) = (j1 : Int) := by rw [IntKind.wrap_i64]; have := hl8.out; omega
        have hb1j : b1 ≤ j1 := by have := hbi.out; have := lt.out; omega
        have hj1l : j1 ≤ l.length := by omega
        have hij1 : i ≤ j1 := by omega
        replace hj1 := hid hj1
        replace hb1 := hid hb1
        go_wp2_with fail
        refine (cI.out _ hL.out j).mono ?_
        rw [q.out]
        rintro e V ⟨rfl, vb⟩
        replace hO := hid (hO.out.below vb)
        replace hL := hid (low' hL.out vb)
        clear vb q
        go_wp2_with fail
        refine (cP.out V j1 b1 hL.out hij1 hj1l hb1j).mono ?_
        rintro e V2 ⟨vb, ⟨g1, vn, ms, rfl, g2, g3⟩ | ⟨u, j2, vn, g1, g2, g3, g4, rfl, g5⟩⟩
        · replace hO := hid (hO.out.below vb)
          have hsz := hL.out.size
          replace hL := hid (low' hL.out vb)
          obtain ⟨ma, mc, rfl⟩ := g2.slice
          obtain ⟨L1, hL1⟩ : ∃ n : Nat, n = t.size + ms.length := ⟨_, rfl⟩
          obtain ⟨b2, hb2⟩ : ∃ n : Nat, n = base + L1 := ⟨_, rfl⟩
          have L1l : L1 ≤ 17000000 := by have := hl8.out; have := lt.out; omega
          obtain ⟨pa, pc, P3, RUN, hO3, hB3⟩ := appN_run hO.out g2 hsz (by rw [flat_len]; omega) hL.out.size
          rw [flat_len, ← hL1] at RUN hO3
          have v4 : IntKind.i64.wrap ((base : Int) + (L1 : Int)) = (b2 : Int) := by rw [IntKind.wrap_i64]; omega
          have v5 : IntKind.i64.wrap ((b2 : Int) - 1) = (b2 : Int) - 1 := by rw [IntKind.wrap_i64]; omega
          have hlow3 : Below w.heap.size w P3 := hL.out.trans hB3
          have hO4 := hO3.below (alloc_below P3 (.cells #[.int .u8 2, .int .u8 0, .slice none 0 0, .int .i64 0, .int .u8 0, .int .i64 0, .int .i64 ((b1 : Int) - 1), .int .i64 ((b2 : Int) - 1)] 31))
          have hlow4 : Below w.heap.size w (P3.alloc (.cells #[.int .u8 2, .int .u8 0, .slice none 0 0, .int .i64 0, .int .u8 0, .int .i64 0, .int .i64 ((b1 : Int) - 1), .int .i64 ((b2 : Int) - 1)] 31)) := low' hlow3 (alloc_below P3 _)
          have hlen3 : (flat base t ++ ms).length = L1 := by rw [List.length_append, flat_len]; exact hL1.symm
          obtain ⟨qa, qc, P5, RUN2, hO5, hB5⟩ := pushN_run hO4 (binNd true ((b1 : Int) - 1) ((b2 : Int) - 1)) rfl (by rw [hlen3]; omega) hlow4.size
          rw [hlen3] at RUN2 hO5
          have RUN2' : Hid (∀ ty, (Builtin.append_ #[22, 22] ty #[.slice pa L1 pc, .slice (some ⟨P3.heap.size + 1, 0, none⟩) 1 1]).run Tryz.prog ((P3.alloc (.cells #[.int .u8 2, .int .u8 0, .slice none 0 0, .int .i64 0, .int .u8 0, .int .i64 0, .int .i64 ((b1 : Int) - 1), .int .i64 ((b2 : Int) - 1)] 31)).alloc (.cells #[.int .u8 2, .int .u8 0, .slice none 0 0, .int .i64 0, .int .u8 0, .int .i64 0, .int .i64 ((b1 : Int) - 1), .int .i64 ((b2 : Int) - 1)] 31)) = .ok (.slice qa (L1 + 1) qc) P5) := by
            have e : (P3.alloc (.cells #[.int .u8 2, .int .u8 0, .slice none 0 0, .int .i64 0, .int .u8 0, .int .i64 0, .int .i64 ((b1 : Int) - 1), .int .i64 ((b2 : Int) - 1)] 31)).heap.size = P3.heap.size + 1 := by simp
            rw [← e]
            exact RUN2
          have hlow5 : Below w.heap.size w P5 := hlow4.trans hB5
          have hfin : Hid (RowS l true i base w (.slice qa (L1 + 1) qc) (.int .i64 (-1)) P5) := by
            have hlen5 : (flat base t ++ ms ++ [binNd true ((b1 : Int) - 1) ((b2 : Int) - 1)]).length = L1 + 1 := by rw [List.length_append, List.length_append, flat_len, hL1]; rfl
            refine ⟨hlow5, .inl ⟨?_, flat base t ++ ms ++ [binNd true ((b1 : Int) - 1) ((b2 : Int) - 1)], qa, qc, by rw [hlen5], rfl, by rw [hlen5]; exact hO5, by rw [hlen5]; have := hj1.out; have := lt.out; omega⟩⟩
            rw [hE.out, hK.out]
            show pE (.more true t) (opKey true :: kat l (j + 1)) = none
            rw [pE_more, ← hj1.out, g1]
          have hmeas : rowM l.length (.int .i64 (-1)) < rowM l.length (.int .i64 (j : Int)) := by
            rw [rowM_neg, rowM_nat]
            omega
          replace hmeas := hid hmeas
          replace RUN := hid RUN
          clear hO hL hsz hO3 hB3 hlow3 hO4 hlow4 hlen3 RUN2 hO5 hB5 hlow5 g1 g2 g3 cI cP hE hK hL1 hb2
          go_wp2_with (at_builtin; first | (refine wpList_append_run _ rfl _ _ 22 rfl _ _ _ _ rfl rfl RUN.out ?_) | (refine wpList_append_run _ rfl _ _ 22 rfl _ _ _ _ rfl rfl RUN2'.out ?_))
          exact ⟨hfin.out, hmeas.out⟩
        · replace hO := hid (hO.out.below vb)
          have hsz := hL.out.size
          replace hL := hid (low' hL.out vb)
          obtain ⟨ma, mc, rfl⟩ := g5.sized (flat_len u b1)
          obtain ⟨L1, hL1⟩ : ∃ n : Nat, n = t.size + u.size := ⟨_, rfl⟩
          obtain ⟨b2, hb2⟩ : ∃ n : Nat, n = base + L1 := ⟨_, rfl⟩
          have L1l : L1 ≤ 17000000 := by have := hl8.out; have := lt.out; omega
          obtain ⟨pa, pc, P3, RUN, hO3, hB3⟩ := appN_run hO.out g5 hsz (by rw [flat_len, flat_len]; omega) hL.out.size
          rw [flat_len, flat_len, ← hL1] at RUN hO3
          have v4 : IntKind.i64.wrap ((base : Int) + (L1 : Int)) = (b2 : Int) := by rw [IntKind.wrap_i64]; omega
          have v5 : IntKind.i64.wrap ((b2 : Int) - 1) = (b2 : Int) - 1 := by rw [IntKind.wrap_i64]; omega
          have hlow3 : Below w.heap.size w P3 := hL.out.trans hB3
          have hO4 := hO3.below (alloc_below P3 (.cells #[.int .u8 2, .int .u8 0, .slice none 0 0, .int .i64 0, .int .u8 0, .int .i64 0, .int .i64 ((b1 : Int) - 1), .int .i64 ((b2 : Int) - 1)] 31))
          have hlow4 : Below w.heap.size w (P3.alloc (.cells #[.int .u8 2, .int .u8 0, .slice none 0 0, .int .i64 0, .int .u8 0, .int .i64 0, .int .i64 ((b1 : Int) - 1), .int .i64 ((b2 : Int) - 1)] 31)) := low' hlow3 (alloc_below P3 _)
          have hlen3 : (flat base t ++ flat b1 u).length = L1 := by rw [List.length_append, flat_len, flat_len]; exact hL1.symm
          obtain ⟨qa, qc, P5, RUN2, hO5, hB5⟩ := pushN_run hO4 (binNd true ((b1 : Int) - 1) ((b2 : Int) - 1)) rfl (by rw [hlen3]; omega) hlow4.size
          rw [hlen3] at RUN2 hO5
          have RUN2' : Hid (∀ ty, (Builtin.append_ #[22, 22] ty #[.slice pa L1 pc, .slice (some ⟨P3.heap.size + 1, 0, none⟩) 1 1]).run Tryz.prog ((P3.alloc (.cells #[.int .u8 2, .int .u8 0, .slice none 0 0, .int .i64 0, .int .u8 0, .int .i64 0, .int .i64 ((b1 : Int) - 1), .int .i64 ((b2 : Int) - 1)] 31)).alloc (.cells #[.int .u8 2, .int .u8 0, .slice none 0 0, .int .i64 0, .int .u8 0, .int .i64 0, .int .i64 ((b1 : Int) - 1), .int .i64 ((b2 : Int) - 1)] 31)) = .ok (.slice qa (L1 + 1) qc) P5) := by
            have e : (P3.alloc (.cells #[.int .u8 2, .int .u8 0, .slice none 0 0, .int .i64 0, .int .u8 0, .int .i64 0, .int .i64 ((b1 : Int) - 1), .int .i64 ((b2 : Int) - 1)] 31)).heap.size = P3.heap.size + 1 := by simp
            rw [← e]
            exact RUN2
          have hlow5 : Below w.heap.size w P5 := hlow4.trans hB5
          have hfin : Hid (RowS l true i base w (.slice qa (L1 + 1) qc) (.int .i64 (j2 : Int)) P5) := by
            refine ⟨hlow5, .inr ⟨.bin true t u, j2, qa, qc, ?_, by omega, g3, by have := hj1.out; have := lt.out; simp only [Tree.size]; omega, by rw [Tree.size, hL1], rfl, ?_⟩⟩
            · rw [hE.out, hK.out]
              show pE (.more true t) (opKey true :: kat l (j + 1)) = _
              rw [pE_more, ← hj1.out, g1]
            · rw [Tree.size, ← hL1, flat, ← hb1.out, show (((b1 : Nat) : Int) - 1) = (b1 : Int) - 1 from rfl, show ((b1 + u.size : Nat) : Int) - 1 = (b2 : Int) - 1 by have := hb1.out; omega]
              exact hO5
          have hmeas : rowM l.length (.int .i64 (j2 : Int)) < rowM l.length (.int .i64 (j : Int)) := by
            rw [rowM_nat, rowM_nat]
            have := hj1.out
            omega
          replace hmeas := hid hmeas
          replace RUN := hid RUN
          clear hO hL hsz hO3 hB3 hlow3 hO4 hlow4 hlen3 RUN2 hO5 hB5 hlow5 g1 g2 g3 g4 g5 cI cP hE hK hL1 hb2
          go_wp2_with (at_builtin; first | (refine wpList_append_run _ rfl _ _ 22 rfl _ _ _ _ rfl rfl RUN.out ?_) | (refine wpList_append_run _ rfl _ _ 22 rfl _ _ _ _ rfl rfl RUN2'.out ?_))
          exact ⟨hfin.out, hmeas.out⟩
end Go.Proofs.YtjhodmpgggaknaaGreatDoor
