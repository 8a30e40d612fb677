/- Joined: F5 F6A F6B F6 F7. -/
import Derived.Test.YtjhodmpgggaknaaGreatDoorZF4
/- Nodes of one's own: append; what the document's rows tell. -/
namespace Go.Proofs.YtjhodmpgggaknaaGreatDoor
open Go.RowKit Go.Shelf Go.Maps

theorem OwnN.sized {B : Nat} {w : World} {v : Value} {ns : List Nd} {m : Nat} (h : OwnN B w v ns) (e : ns.length = m) : ∃ a c, v = .slice a m c := e ▸ h.slice
theorem selO_grown {w w' : World} {base B : Nat} {v : Value} {z y : List (Nd × Value)} (hz : OwnZ base w v z) (hs : SelO B w y) (hg : w.grownBy w' v.ownBlock) : SelO B w' y :=
  hs.keep fun k c hc => hg.block k (lt_of_block hc) fun e => by
    obtain ⟨c2, h⟩ := hz.block e.symm
    rw [hc] at h
    simp at h
theorem appN_run {w : World} {base B2 : Nat} {v v2 : Value} {ns ms : List Nd} (hr : OwnN base w v ns) (h2 : OwnN B2 w v2 ms) (hB : base ≤ B2) (hl : ns.length + ms.length ≤ 1000000000) (hb : base ≤ w.heap.size) :
    ∃ a' c' w', (∀ ty, (Builtin.append_ #[22, 22] ty #[v, v2]).run Tryz.prog w = .ok (.slice a' (ns.length + ms.length) c') w') ∧ OwnN base w' (.slice a' (ns.length + ms.length) c') (ns ++ ms) ∧ Below base w w' := by
  obtain ⟨z, rfl, hz, hs⟩ := hr
  obtain ⟨y, rfl, hy, ht⟩ := h2
  rw [List.length_map, List.length_map] at hl ⊢
  obtain ⟨a', c', w', g1, g2, g3, _⟩ := appZ_run hz hy.isZ ht.isI.one hl hb
  exact ⟨a', c', w', g1, ⟨z ++ y, by simp, g2, (selO_grown hz hs g3).app ((selO_grown hz ht g3).base hB)⟩, ownZ_low hz hb g3⟩
theorem selO_nil (B : Nat) (w : World) (x : Nd) (hx : x.sel = []) : SelO B w [(x, .slice none 0 0)] := fun p hp => by
  simp at hp
  subst hp
  show Mat.OwnM B w (.slice none 0 0) x.sel
  rw [hx]
  exact Mat.ownM_nil _ _
theorem pushN_run {w : World} {base : Nat} {v : Value} {ns : List Nd} (hr : OwnN base w v ns) (x : Nd) (hx : x.sel = []) (hl : ns.length + 1 ≤ 1000000000) (hb : base ≤ w.heap.size) :
    ∃ a' c' w', (∀ ty, (Builtin.append_ #[22, 22] ty #[v, .slice (some ⟨w.heap.size, 0, none⟩) 1 1]).run Tryz.prog (w.alloc (.cells #[.int .u8 (x.kind.toNat : Int), .int .u8 (x.agg.toNat : Int), .slice none 0 0, .int .i64 x.win, .int .u8 (x.cmp.toNat : Int), .int .i64 x.val, .int .i64 x.left, .int .i64 x.right] 31)) = .ok (.slice a' (ns.length + 1) c') w') ∧ OwnN base w' (.slice a' (ns.length + 1) c') (ns ++ [x]) ∧ Below base w w' := by
  obtain ⟨z, rfl, hz, hs⟩ := hr
  rw [List.length_map] at hl ⊢
  obtain ⟨a', c', w', g1, g2, g3, _⟩ := pushZ_run hz x (.slice none 0 0) rfl hl hb
  have hz' := hz.below (alloc_below w (.cells #[.int .u8 (x.kind.toNat : Int), .int .u8 (x.agg.toNat : Int), .slice none 0 0, .int .i64 x.win, .int .u8 (x.cmp.toNat : Int), .int .i64 x.val, .int .i64 x.left, .int .i64 x.right] 31))
  have hs' := hs.below (alloc_below w (.cells #[.int .u8 (x.kind.toNat : Int), .int .u8 (x.agg.toNat : Int), .slice none 0 0, .int .i64 x.win, .int .u8 (x.cmp.toNat : Int), .int .i64 x.val, .int .i64 x.left, .int .i64 x.right] 31))
  exact ⟨a', c', w', g1, ⟨z ++ [(x, .slice none 0 0)], by simp, g2, (selO_grown hz' hs' g3).app (selO_nil _ _ x hx)⟩, ((Below.refl base w).alloc hb _).trans (ownZ_low hz' (by simp; omega) g3)⟩
/-- what a row, a part, a condition of the document tells. -/
def RowD (l : List Tk) (lev : Lev) (i base : Nat) (w : World) (e : Ending) (w' : World) : Prop := Below w.heap.size w w' ∧ ((pE lev (kat l i) = none ∧ ∃ vn ns, e = .returned (.tuple #[vn, .int .i64 (-1)]) ∧ OwnN w.heap.size w' vn ns ∧ ns.length + i ≤ l.length + 1) ∨ ∃ t j vn, pE lev (kat l i) = some (t, kat l j) ∧ i < j ∧ j ≤ l.length ∧ t.size + i ≤ j ∧ e = .returned (.tuple #[vn, .int .i64 (j : Int)]) ∧ OwnN w.heap.size w' vn (flat base t))
def levOf (o : Bool) : Lev := if o then .or else .and
theorem pE_lev (o : Bool) (ks : List Key) : pE (levOf o) ks = match pE (partOf o) ks with
    | none => none
    | some (t, r) => pE (.more o t) r := by
  cases o with
  | true => exact pE_or ks
  | false => exact pE_and ks
/-- between two rounds of a row. -/
def RowS (l : List Tk) (o : Bool) (i base : Nat) (w : World) (ov nv : Value) (wr : World) : Prop :=
  Below w.heap.size w wr ∧ ((pE (levOf o) (kat l i) = none ∧ ∃ ns a c, ov = .slice a ns.length c ∧ nv = .int .i64 (-1) ∧ OwnN w.heap.size wr (.slice a ns.length c) ns ∧ ns.length + i ≤ l.length + 1) ∨ ∃ t j a c, pE (levOf o) (kat l i) = pE (.more o t) (kat l j) ∧ i < j ∧ j ≤ l.length ∧ t.size + i ≤ j ∧ ov = .slice a t.size c ∧ nv = .int .i64 (j : Int) ∧ OwnN w.heap.size wr (.slice a t.size c) (flat base t))
theorem rowS_start {l : List Tk} {o : Bool} {i base : Nat} {w w' : World} {e : Ending} (h : RowD l (partOf o) i base w e w') : ∃ ov nv, e = .returned (.tuple #[ov, nv]) ∧ RowS l o i base w ov nv w' := by
  obtain ⟨hb, ⟨h1, vn, ns, rfl, h2, h3⟩ | ⟨t, j, vn, h1, h2, h3, h4, rfl, h5⟩⟩ := h
  · obtain ⟨a, c, rfl⟩ := h2.slice
    exact ⟨_, _, rfl, hb, .inl ⟨by rw [pE_lev, h1], ns, a, c, rfl, rfl, h2, h3⟩⟩
  · obtain ⟨a, c, rfl⟩ := h5.sized (flat_len t base)
    exact ⟨_, _, rfl, hb, .inr ⟨t, j, a, c, by rw [pE_lev, h1], h2, h3, h4, rfl, rfl, h5⟩⟩
def rowM (n : Nat) (nv : Value) : Nat := if intOf nv < 0 then 0 else n + 1 - (intOf nv).toNat
theorem rowM_nat (n j : Nat) : rowM n (.int .i64 (j : Int)) = n + 1 - j := by
  unfold rowM
  rw [if_neg (by simp [intOf])]
  simp [intOf]
theorem rowM_neg (n : Nat) : rowM n (.int .i64 (-1)) = 0 := by
  unfold rowM
  rw [if_pos (by simp [intOf])]
end Go.Proofs.YtjhodmpgggaknaaGreatDoor
/- The document's rows. -/
namespace Go.Proofs.YtjhodmpgggaknaaGreatDoor
open Go.RowKit Go.Shelf Go.Maps
set_option maxRecDepth 100000 in
set_option maxHeartbeats 4000000 in
theorem rowOr_any {w : World} {v : Value} {l : List Tk} (h : IsDs w v l) (hl : l.length ≤ 8000000) (i base : Nat) (hi : i ≤ l.length) (hb : base ≤ i)
    (hpart : ∀ (W : World) (i' base' : Nat), Below w.heap.size w W → i ≤ i' → i' ≤ l.length → base' ≤ i' → Calls Tryz.prog 61 #[v, .int .i64 (i' : Int), .int .i64 (base' : Int), .string ⟨([111, 114] : Tx).toArray⟩] W (RowD l (partOf true) i' base' W)) :
    Calls Tryz.prog 40 #[v, .int .i64 (i : Int), .int .i64 (base : Int), .string ⟨([111, 114] : Tx).toArray⟩] w (RowD l .or i base w) := by
  have cI := hid (fun W (hb : Below w.heap.size w W) p => is_low (h.below hb) p 1 [111, 114])
  have cP := hid hpart
  obtain ⟨a, c, rfl⟩ := h.slice
  have hl8 := hid hl
  have hbi := hid hb
  have hil := hid hi
  clear h hpart hl hi hb
  go_enter Tryz.func40, Tryz.ntmps40
  go_wp2_with fail
  refine (cP.out w i base (Below.refl _ _) (Nat.le_refl _) hil.out hbi.out).mono ?_
  intro e w1 hr
  obtain ⟨ov, nv, rfl, hS⟩ := rowS_start hr
  replace hS := hid hS
  clear hr
  go_wp2_with fail
  go_loopw [10, 11] (fun ov nv wr => Hid (RowS l true i base w ov nv wr)) (fun _ nv _ => rowM l.length nv)
  case atStart => exact hS
  case round =>
    clear hS
    obtain ⟨hlow, ⟨h1, ns, sa, sc, rfl, rfl, h2, h3⟩ | ⟨t, j, sa, sc, h1, h2, h3, h4, rfl, rfl, h5⟩⟩ := hrel.out
    · have hfin : Hid (RowD l .or i base w (.returned (.tuple #[.slice sa ns.length sc, .int .i64 (-1)])) wr) := ⟨hlow, .inl ⟨h1, _, ns, rfl, h2, h3⟩⟩
      clear hlow h1 h2 h3 hrel cI cP
      go_wp2
      go_ret2
      exact hfin.out
    · have hj0 : (0 : Int) ≤ (j : Int) := by omega
      have hO := hid h5
      have hL := hid hlow
      have hE := hid h1
      have lt := hid h4
      clear hrel h5 hlow h1
      cases q : isK 1 [111, 114] (kat l j)
      · have hfin : Hid (∀ W', Below w.heap.size w W' → OwnN w.heap.size W' (.slice sa t.size sc) (flat base t) → RowD l .or i base w (.returned (.tuple #[.slice sa t.size sc, .int .i64 (j : Int)])) W') := fun W' hb' ho' => ⟨hb', .inr ⟨t, j, _, by
          show pE (levOf true) _ = _
          rw [hE.out]
          exact more_stop (fun x r e => by
            rintro rfl
            exact isK_no q r e), h2, h3, lt.out, rfl, ho'⟩⟩
        replace q := hid q
        go_wp2_with fail
        refine (cI.out _ hL.out j).mono ?_
        rw [q.out]
        rintro e V ⟨rfl, vb⟩
        have hfin2 := hid (hfin.out V (low' hL.out vb) (hO.out.below vb))
        clear hfin cI cP hO hL hE vb
        go_wp2
        go_ret2
        exact hfin2.out
      · have hq := isK_sign q (by decide)
        have hK := hid hq.2
        have hjl := hq.1
        replace q := hid q
        clear hq
        obtain ⟨j1, hj1⟩ : ∃ n : Nat, n = j + 1 := ⟨_, rfl⟩
        obtain ⟨b1, hb1⟩ : ∃ n : Nat, n = base + t.size := ⟨_, rfl⟩
        have tl : t.size ≤ 8000000 := by have := hl8.out; have := lt.out; omega
        have bl : base ≤ 8000000 := by have := hl8.out; have := hbi.out; have := hil.out; omega
        have tp := t.pos
        have v1 : IntKind.i64.wrap ((base : Int) + (t.size : Int)) = (b1 : Int) := by rw [IntKind.wrap_i64]; omega
        have v2 : IntKind.i64.wrap ((b1 : Int) - 1) = (b1 : Int) - 1 := by rw [IntKind.wrap_i64]; omega
        have v3 : IntKind.i64.wrap ((j : Int) + 1) = (j1 : Int) := by rw [IntKind.wrap_i64]; have := hl8.out; omega
        have hb1j : b1 ≤ j1 := by have := hbi.out; have := lt.out; omega
        have hj1l : j1 ≤ l.length := by omega
        have hij1 : i ≤ j1 := by omega
        replace hj1 := hid hj1
        replace hb1 := hid hb1
        go_wp2_with fail
        refine (cI.out _ hL.out j).mono ?_
        rw [q.out]
        rintro e V ⟨rfl, vb⟩
        replace hO := hid (hO.out.below vb)
        replace hL := hid (low' hL.out vb)
        clear vb q
        go_wp2_with fail
        refine (cP.out V j1 b1 hL.out hij1 hj1l hb1j).mono ?_
        rintro e V2 ⟨vb, ⟨g1, vn, ms, rfl, g2, g3⟩ | ⟨u, j2, vn, g1, g2, g3, g4, rfl, g5⟩⟩
        · replace hO := hid (hO.out.below vb)
          have hsz := hL.out.size
          replace hL := hid (low' hL.out vb)
          obtain ⟨ma, mc, rfl⟩ := g2.slice
          obtain ⟨L1, hL1⟩ : ∃ n : Nat, n = t.size + ms.length := ⟨_, rfl⟩
          obtain ⟨b2, hb2⟩ : ∃ n : Nat, n = base + L1 := ⟨_, rfl⟩
          have L1l : L1 ≤ 17000000 := by have := hl8.out; have := lt.out; omega
          obtain ⟨pa, pc, P3, RUN, hO3, hB3⟩ := appN_run hO.out g2 hsz (by rw [flat_len]; omega) hL.out.size
          rw [flat_len, ← hL1] at RUN hO3
          have v4 : IntKind.i64.wrap ((base : Int) + (L1 : Int)) = (b2 : Int) := by rw [IntKind.wrap_i64]; omega
          have v5 : IntKind.i64.wrap ((b2 : Int) - 1) = (b2 : Int) - 1 := by rw [IntKind.wrap_i64]; omega
          have hlow3 : Below w.heap.size w P3 := hL.out.trans hB3
          have hO4 := hO3.below (alloc_below P3 (.cells #[.int .u8 2, .int .u8 0, .slice none 0 0, .int .i64 0, .int .u8 0, .int .i64 0, .int .i64 ((b1 : Int) - 1), .int .i64 ((b2 : Int) - 1)] 31))
          have hlow4 : Below w.heap.size w (P3.alloc (.cells #[.int .u8 2, .int .u8 0, .slice none 0 0, .int .i64 0, .int .u8 0, .int .i64 0, .int .i64 ((b1 : Int) - 1), .int .i64 ((b2 : Int) - 1)] 31)) := low' hlow3 (alloc_below P3 _)
          have hlen3 : (flat base t ++ ms).length = L1 := by rw [List.length_append, flat_len]; exact hL1.symm
          obtain ⟨qa, qc, P5, RUN2, hO5, hB5⟩ := pushN_run hO4 (binNd true ((b1 : Int) - 1) ((b2 : Int) - 1)) rfl (by rw [hlen3]; omega) hlow4.size
          rw [hlen3] at RUN2 hO5
          have RUN2' : Hid (∀ ty, (Builtin.append_ #[22, 22] ty #[.slice pa L1 pc, .slice (some ⟨P3.heap.size + 1, 0, none⟩) 1 1]).run Tryz.prog ((P3.alloc (.cells #[.int .u8 2, .int .u8 0, .slice none 0 0, .int .i64 0, .int .u8 0, .int .i64 0, .int .i64 ((b1 : Int) - 1), .int .i64 ((b2 : Int) - 1)] 31)).alloc (.cells #[.int .u8 2, .int .u8 0, .slice none 0 0, .int .i64 0, .int .u8 0, .int .i64 0, .int .i64 ((b1 : Int) - 1), .int .i64 ((b2 : Int) - 1)] 31)) = .ok (.slice qa (L1 + 1) qc) P5) := by
            have e : (P3.alloc (.cells #[.int .u8 2, .int .u8 0, .slice none 0 0, .int .i64 0, .int .u8 0, .int .i64 0, .int .i64 ((b1 : Int) - 1), .int .i64 ((b2 : Int) - 1)] 31)).heap.size = P3.heap.size + 1 := by simp
            rw [← e]
            exact RUN2
          have hlow5 : Below w.heap.size w P5 := hlow4.trans hB5
          have hfin : Hid (RowS l true i base w (.slice qa (L1 + 1) qc) (.int .i64 (-1)) P5) := by
            have hlen5 : (flat base t ++ ms ++ [binNd true ((b1 : Int) - 1) ((b2 : Int) - 1)]).length = L1 + 1 := by rw [List.length_append, List.length_append, flat_len, hL1]; rfl
            refine ⟨hlow5, .inl ⟨?_, flat base t ++ ms ++ [binNd true ((b1 : Int) - 1) ((b2 : Int) - 1)], qa, qc, by rw [hlen5], rfl, by rw [hlen5]; exact hO5, by rw [hlen5]; have := hj1.out; have := lt.out; omega⟩⟩
            rw [hE.out, hK.out]
            show pE (.more true t) (opKey true :: kat l (j + 1)) = none
            rw [pE_more, ← hj1.out, g1]
          have hmeas : rowM l.length (.int .i64 (-1)) < rowM l.length (.int .i64 (j : Int)) := by
            rw [rowM_neg, rowM_nat]
            omega
          replace hmeas := hid hmeas
          replace RUN := hid RUN
          clear hO hL hsz hO3 hB3 hlow3 hO4 hlow4 hlen3 RUN2 hO5 hB5 hlow5 g1 g2 g3 cI cP hE hK hL1 hb2
          go_wp2_with (at_builtin; first | (refine wpList_append_run _ rfl _ _ 22 rfl _ _ _ _ rfl rfl RUN.out ?_) | (refine wpList_append_run _ rfl _ _ 22 rfl _ _ _ _ rfl rfl RUN2'.out ?_))
          exact ⟨hfin.out, hmeas.out⟩
        · replace hO := hid (hO.out.below vb)
          have hsz := hL.out.size
          replace hL := hid (low' hL.out vb)
          obtain ⟨ma, mc, rfl⟩ := g5.sized (flat_len u b1)
          obtain ⟨L1, hL1⟩ : ∃ n : Nat, n = t.size + u.size := ⟨_, rfl⟩
          obtain ⟨b2, hb2⟩ : ∃ n : Nat, n = base + L1 := ⟨_, rfl⟩
          have L1l : L1 ≤ 17000000 := by have := hl8.out; have := lt.out; omega
          obtain ⟨pa, pc, P3, RUN, hO3, hB3⟩ := appN_run hO.out g5 hsz (by rw [flat_len, flat_len]; omega) hL.out.size
          rw [flat_len, flat_len, ← hL1] at RUN hO3
          have v4 : IntKind.i64.wrap ((base : Int) + (L1 : Int)) = (b2 : Int) := by rw [IntKind.wrap_i64]; omega
          have v5 : IntKind.i64.wrap ((b2 : Int) - 1) = (b2 : Int) - 1 := by rw [IntKind.wrap_i64]; omega
          have hlow3 : Below w.heap.size w P3 := hL.out.trans hB3
          have hO4 := hO3.below (alloc_below P3 (.cells #[.int .u8 2, .int .u8 0, .slice none 0 0, .int .i64 0, .int .u8 0, .int .i64 0, .int .i64 ((b1 : Int) - 1), .int .i64 ((b2 : Int) - 1)] 31))
          have hlow4 : Below w.heap.size w (P3.alloc (.cells #[.int .u8 2, .int .u8 0, .slice none 0 0, .int .i64 0, .int .u8 0, .int .i64 0, .int .i64 ((b1 : Int) - 1), .int .i64 ((b2 : Int) - 1)] 31)) := low' hlow3 (alloc_below P3 _)
          have hlen3 : (flat base t ++ flat b1 u).length = L1 := by rw [List.length_append, flat_len, flat_len]; exact hL1.symm
          obtain ⟨qa, qc, P5, RUN2, hO5, hB5⟩ := pushN_run hO4 (binNd true ((b1 : Int) - 1) ((b2 : Int) - 1)) rfl (by rw [hlen3]; omega) hlow4.size
          rw [hlen3] at RUN2 hO5
          have RUN2' : Hid (∀ ty, (Builtin.append_ #[22, 22] ty #[.slice pa L1 pc, .slice (some ⟨P3.heap.size + 1, 0, none⟩) 1 1]).run Tryz.prog ((P3.alloc (.cells #[.int .u8 2, .int .u8 0, .slice none 0 0, .int .i64 0, .int .u8 0, .int .i64 0, .int .i64 ((b1 : Int) - 1), .int .i64 ((b2 : Int) - 1)] 31)).alloc (.cells #[.int .u8 2, .int .u8 0, .slice none 0 0, .int .i64 0, .int .u8 0, .int .i64 0, .int .i64 ((b1 : Int) - 1), .int .i64 ((b2 : Int) - 1)] 31)) = .ok (.slice qa (L1 + 1) qc) P5) := by
            have e : (P3.alloc (.cells #[.int .u8 2, .int .u8 0, .slice none 0 0, .int .i64 0, .int .u8 0, .int .i64 0, .int .i64 ((b1 : Int) - 1), .int .i64 ((b2 : Int) - 1)] 31)).heap.size = P3.heap.size + 1 := by simp
            rw [← e]
            exact RUN2
          have hlow5 : Below w.heap.size w P5 := hlow4.trans hB5
          have hfin : Hid (RowS l true i base w (.slice qa (L1 + 1) qc) (.int .i64 (j2 : Int)) P5) := by
            refine ⟨hlow5, .inr ⟨.bin true t u, j2, qa, qc, ?_, by omega, g3, by have := hj1.out; have := lt.out; simp only [Tree.size]; omega, by rw [Tree.size, hL1], rfl, ?_⟩⟩
            · rw [hE.out, hK.out]
              show pE (.more true t) (opKey true :: kat l (j + 1)) = _
              rw [pE_more, ← hj1.out, g1]
            · rw [Tree.size, ← hL1, flat, ← hb1.out, show (((b1 : Nat) : Int) - 1) = (b1 : Int) - 1 from rfl, show ((b1 + u.size : Nat) : Int) - 1 = (b2 : Int) - 1 by have := hb1.out; omega]
              exact hO5
          have hmeas : rowM l.length (.int .i64 (j2 : Int)) < rowM l.length (.int .i64 (j : Int)) := by
            rw [rowM_nat, rowM_nat]
            have := hj1.out
            omega
          replace hmeas := hid hmeas
          replace RUN := hid RUN
          clear hO hL hsz hO3 hB3 hlow3 hO4 hlow4 hlen3 RUN2 hO5 hB5 hlow5 g1 g2 g3 g4 g5 cI cP hE hK hL1 hb2
          go_wp2_with (at_builtin; first | (refine wpList_append_run _ rfl _ _ 22 rfl _ _ _ _ rfl rfl RUN.out ?_) | (refine wpList_append_run _ rfl _ _ 22 rfl _ _ _ _ rfl rfl RUN2'.out ?_))
          exact ⟨hfin.out, hmeas.out⟩
end Go.Proofs.YtjhodmpgggaknaaGreatDoor
/- The document's rows. -/
namespace Go.Proofs.YtjhodmpgggaknaaGreatDoor
open Go.RowKit Go.Shelf Go.Maps
set_option maxRecDepth 100000 in
set_option maxHeartbeats 4000000 in
theorem rowAnd_any {w : World} {v : Value} {l : List Tk} (h : IsDs w v l) (hl : l.length ≤ 8000000) (i base : Nat) (hi : i ≤ l.length) (hb : base ≤ i)
    (hpart : ∀ (W : World) (i' base' : Nat), Below w.heap.size w W → i ≤ i' → i' ≤ l.length → base' ≤ i' → Calls Tryz.prog 61 #[v, .int .i64 (i' : Int), .int .i64 (base' : Int), .string ⟨([97, 110, 100] : Tx).toArray⟩] W (RowD l (partOf false) i' base' W)) :
    Calls Tryz.prog 40 #[v, .int .i64 (i : Int), .int .i64 (base : Int), .string ⟨([97, 110, 100] : Tx).toArray⟩] w (RowD l .and i base w) := by
  have cI := hid (fun W (hb : Below w.heap.size w W) p => is_low (h.below hb) p 1 [97, 110, 100])
  have cP := hid hpart
  obtain ⟨a, c, rfl⟩ := h.slice
  have hl8 := hid hl
  have hbi := hid hb
  have hil := hid hi
  clear h hpart hl hi hb
  go_enter Tryz.func40, Tryz.ntmps40
  go_wp2_with fail
  refine (cP.out w i base (Below.refl _ _) (Nat.le_refl _) hil.out hbi.out).mono ?_
  intro e w1 hr
  obtain ⟨ov, nv, rfl, hS⟩ := rowS_start hr
  replace hS := hid hS
  clear hr
  go_wp2_with fail
  go_loopw [10, 11] (fun ov nv wr => Hid (RowS l false i base w ov nv wr)) (fun _ nv _ => rowM l.length nv)
  case atStart => exact hS
  case round =>
    clear hS
    obtain ⟨hlow, ⟨h1, ns, sa, sc, rfl, rfl, h2, h3⟩ | ⟨t, j, sa, sc, h1, h2, h3, h4, rfl, rfl, h5⟩⟩ := hrel.out
    · have hfin : Hid (RowD l .and i base w (.returned (.tuple #[.slice sa ns.length sc, .int .i64 (-1)])) wr) := ⟨hlow, .inl ⟨h1, _, ns, rfl, h2, h3⟩⟩
      clear hlow h1 h2 h3 hrel cI cP
      go_wp2
      go_ret2
      exact hfin.out
    · have hj0 : (0 : Int) ≤ (j : Int) := by omega
      have hO := hid h5
      have hL := hid hlow
      have hE := hid h1
      have lt := hid h4
      clear hrel h5 hlow h1
      cases q : isK 1 [97, 110, 100] (kat l j)
      · have hfin : Hid (∀ W', Below w.heap.size w W' → OwnN w.heap.size W' (.slice sa t.size sc) (flat base t) → RowD l .and i base w (.returned (.tuple #[.slice sa t.size sc, .int .i64 (j : Int)])) W') := fun W' hb' ho' => ⟨hb', .inr ⟨t, j, _, by
          show pE (levOf false) _ = _
          rw [hE.out]
          exact more_stop (fun x r e => by
            rintro rfl
            exact isK_no q r e), h2, h3, lt.out, rfl, ho'⟩⟩
        replace q := hid q
        go_wp2_with fail
        refine (cI.out _ hL.out j).mono ?_
        rw [q.out]
        rintro e V ⟨rfl, vb⟩
        have hfin2 := hid (hfin.out V (low' hL.out vb) (hO.out.below vb))
        clear hfin cI cP hO hL hE vb
        go_wp2
        go_ret2
        exact hfin2.out
      · have hq := isK_sign q (by decide)
        have hK := hid hq.2
        have hjl := hq.1
        replace q := hid q
        clear hq
        obtain ⟨j1, hj1⟩ : ∃ n : Nat, n = j + 1 := ⟨_, rfl⟩
        obtain ⟨b1, hb1⟩ : ∃ n : Nat, n = base + t.size := ⟨_, rfl⟩
        have tl : t.size ≤ 8000000 := by have := hl8.out; have := lt.out; omega
        have bl : base ≤ 8000000 := by have := hl8.out; have := hbi.out; have := hil.out; omega
        have tp := t.pos
        have v1 : IntKind.i64.wrap ((base : Int) + (t.size : Int)) = (b1 : Int) := by rw [IntKind.wrap_i64]; omega
        have v2 : IntKind.i64.wrap ((b1 : Int) - 1) = (b1 : Int) - 1 := by rw [IntKind.wrap_i64]; omega
        have v3 : IntKind.i64.wrap ((j : Int) + 1) = (j1 : Int) := by rw [IntKind.wrap_i64]; have := hl8.out; omega
        have hb1j : b1 ≤ j1 := by have := hbi.out; have := lt.out; omega
        have hj1l : j1 ≤ l.length := by omega
        have hij1 : i ≤ j1 := by omega
        replace hj1 := hid hj1
        replace hb1 := hid hb1
        go_wp2_with fail
        refine (cI.out _ hL.out j).mono ?_
        rw [q.out]
        rintro e V ⟨rfl, vb⟩
        replace hO := hid (hO.out.below vb)
        replace hL := hid (low' hL.out vb)
        clear vb q
        go_wp2_with fail
        refine (cP.out V j1 b1 hL.out hij1 hj1l hb1j).mono ?_
        rintro e V2 ⟨vb, ⟨g1, vn, ms, rfl, g2, g3⟩ | ⟨u, j2, vn, g1, g2, g3, g4, rfl, g5⟩⟩
        · replace hO := hid (hO.out.below vb)
          have hsz := hL.out.size
          replace hL := hid (low' hL.out vb)
          obtain ⟨ma, mc, rfl⟩ := g2.slice
          obtain ⟨L1, hL1⟩ : ∃ n : Nat, n = t.size + ms.length := ⟨_, rfl⟩
          obtain ⟨b2, hb2⟩ : ∃ n : Nat, n = base + L1 := ⟨_, rfl⟩
          have L1l : L1 ≤ 17000000 := by have := hl8.out; have := lt.out; omega
          obtain ⟨pa, pc, P3, RUN, hO3, hB3⟩ := appN_run hO.out g2 hsz (by rw [flat_len]; omega) hL.out.size
          rw [flat_len, ← hL1] at RUN hO3
          have v4 : IntKind.i64.wrap ((base : Int) + (L1 : Int)) = (b2 : Int) := by rw [IntKind.wrap_i64]; omega
          have v5 : IntKind.i64.wrap ((b2 : Int) - 1) = (b2 : Int) - 1 := by rw [IntKind.wrap_i64]; omega
          have hlow3 : Below w.heap.size w P3 := hL.out.trans hB3
          have hO4 := hO3.below (alloc_below P3 (.cells #[.int .u8 1, .int .u8 0, .slice none 0 0, .int .i64 0, .int .u8 0, .int .i64 0, .int .i64 ((b1 : Int) - 1), .int .i64 ((b2 : Int) - 1)] 31))
          have hlow4 : Below w.heap.size w (P3.alloc (.cells #[.int .u8 1, .int .u8 0, .slice none 0 0, .int .i64 0, .int .u8 0, .int .i64 0, .int .i64 ((b1 : Int) - 1), .int .i64 ((b2 : Int) - 1)] 31)) := low' hlow3 (alloc_below P3 _)
          have hlen3 : (flat base t ++ ms).length = L1 := by rw [List.length_append, flat_len]; exact hL1.symm
          obtain ⟨qa, qc, P5, RUN2, hO5, hB5⟩ := pushN_run hO4 (binNd false ((b1 : Int) - 1) ((b2 : Int) - 1)) rfl (by rw [hlen3]; omega) hlow4.size
          rw [hlen3] at RUN2 hO5
          have RUN2' : Hid (∀ ty, (Builtin.append_ #[22, 22] ty #[.slice pa L1 pc, .slice (some ⟨P3.heap.size + 1, 0, none⟩) 1 1]).run Tryz.prog ((P3.alloc (.cells #[.int .u8 1, .int .u8 0, .slice none 0 0, .int .i64 0, .int .u8 0, .int .i64 0, .int .i64 ((b1 : Int) - 1), .int .i64 ((b2 : Int) - 1)] 31)).alloc (.cells #[.int .u8 1, .int .u8 0, .slice none 0 0, .int .i64 0, .int .u8 0, .int .i64 0, .int .i64 ((b1 : Int) - 1), .int .i64 ((b2 : Int) - 1)] 31)) = .ok (.slice qa (L1 + 1) qc) P5) := by
            have e : (P3.alloc (.cells #[.int .u8 1, .int .u8 0, .slice none 0 0, .int .i64 0, .int .u8 0, .int .i64 0, .int .i64 ((b1 : Int) - 1), .int .i64 ((b2 : Int) - 1)] 31)).heap.size = P3.heap.size + 1 := by simp
            rw [← e]
            exact RUN2
          have hlow5 : Below w.heap.size w P5 := hlow4.trans hB5
          have hfin : Hid (RowS l false i base w (.slice qa (L1 + 1) qc) (.int .i64 (-1)) P5) := by
            have hlen5 : (flat base t ++ ms ++ [binNd false ((b1 : Int) - 1) ((b2 : Int) - 1)]).length = L1 + 1 := by rw [List.length_append, List.length_append, flat_len, hL1]; rfl
            refine ⟨hlow5, .inl ⟨?_, flat base t ++ ms ++ [binNd false ((b1 : Int) - 1) ((b2 : Int) - 1)], qa, qc, by rw [hlen5], rfl, by rw [hlen5]; exact hO5, by rw [hlen5]; have := hj1.out; have := lt.out; omega⟩⟩
            rw [hE.out, hK.out]
            show pE (.more false t) (opKey false :: kat l (j + 1)) = none
            rw [pE_more, ← hj1.out, g1]
          have hmeas : rowM l.length (.int .i64 (-1)) < rowM l.length (.int .i64 (j : Int)) := by
            rw [rowM_neg, rowM_nat]
            omega
          replace hmeas := hid hmeas
          replace RUN := hid RUN
          clear hO hL hsz hO3 hB3 hlow3 hO4 hlow4 hlen3 RUN2 hO5 hB5 hlow5 g1 g2 g3 cI cP hE hK hL1 hb2
          go_wp2_with (at_builtin; first | (refine wpList_append_run _ rfl _ _ 22 rfl _ _ _ _ rfl rfl RUN.out ?_) | (refine wpList_append_run _ rfl _ _ 22 rfl _ _ _ _ rfl rfl RUN2'.out ?_))
          exact ⟨hfin.out, hmeas.out⟩
        · replace hO := hid (hO.out.below vb)
          have hsz := hL.out.size
          replace hL := hid (low' hL.out vb)
          obtain ⟨ma, mc, rfl⟩ := g5.sized (flat_len u b1)
          obtain ⟨L1, hL1⟩ : ∃ n : Nat, n = t.size + u.size := ⟨_, rfl⟩
          obtain ⟨b2, hb2⟩ : ∃ n : Nat, n = base + L1 := ⟨_, rfl⟩
          have L1l : L1 ≤ 17000000 := by have := hl8.out; have := lt.out; omega
          obtain ⟨pa, pc, P3, RUN, hO3, hB3⟩ := appN_run hO.out g5 hsz (by rw [flat_len, flat_len]; omega) hL.out.size
          rw [flat_len, flat_len, ← hL1] at RUN hO3
          have v4 : IntKind.i64.wrap ((base : Int) + (L1 : Int)) = (b2 : Int) := by rw [IntKind.wrap_i64]; omega
          have v5 : IntKind.i64.wrap ((b2 : Int) - 1) = (b2 : Int) - 1 := by rw [IntKind.wrap_i64]; omega
          have hlow3 : Below w.heap.size w P3 := hL.out.trans hB3
          have hO4 := hO3.below (alloc_below P3 (.cells #[.int .u8 1, .int .u8 0, .slice none 0 0, .int .i64 0, .int .u8 0, .int .i64 0, .int .i64 ((b1 : Int) - 1), .int .i64 ((b2 : Int) - 1)] 31))
          have hlow4 : Below w.heap.size w (P3.alloc (.cells #[.int .u8 1, .int .u8 0, .slice none 0 0, .int .i64 0, .int .u8 0, .int .i64 0, .int .i64 ((b1 : Int) - 1), .int .i64 ((b2 : Int) - 1)] 31)) := low' hlow3 (alloc_below P3 _)
          have hlen3 : (flat base t ++ flat b1 u).length = L1 := by rw [List.length_append, flat_len, flat_len]; exact hL1.symm
          obtain ⟨qa, qc, P5, RUN2, hO5, hB5⟩ := pushN_run hO4 (binNd false ((b1 : Int) - 1) ((b2 : Int) - 1)) rfl (by rw [hlen3]; omega) hlow4.size
          rw [hlen3] at RUN2 hO5
          have RUN2' : Hid (∀ ty, (Builtin.append_ #[22, 22] ty #[.slice pa L1 pc, .slice (some ⟨P3.heap.size + 1, 0, none⟩) 1 1]).run Tryz.prog ((P3.alloc (.cells #[.int .u8 1, .int .u8 0, .slice none 0 0, .int .i64 0, .int .u8 0, .int .i64 0, .int .i64 ((b1 : Int) - 1), .int .i64 ((b2 : Int) - 1)] 31)).alloc (.cells #[.int .u8 1, .int .u8 0, .slice none 0 0, .int .i64 0, .int .u8 0, .int .i64 0, .int .i64 ((b1 : Int) - 1), .int .i64 ((b2 : Int) - 1)] 31)) = .ok (.slice qa (L1 + 1) qc) P5) := by
            have e : (P3.alloc (.cells #[.int .u8 1, .int .u8 0, .slice none 0 0, .int .i64 0, .int .u8 0, .int .i64 0, .int .i64 ((b1 : Int) - 1), .int .i64 ((b2 : Int) - 1)] 31)).heap.size = P3.heap.size + 1 := by simp
            rw [← e]
            exact RUN2
          have hlow5 : Below w.heap.size w P5 := hlow4.trans hB5
          have hfin : Hid (RowS l false i base w (.slice qa (L1 + 1) qc) (.int .i64 (j2 : Int)) P5) := by
            refine ⟨hlow5, .inr ⟨.bin false t u, j2, qa, qc, ?_, by omega, g3, by have := hj1.out; have := lt.out; simp only [Tree.size]; omega, by rw [Tree.size, hL1], rfl, ?_⟩⟩
            · rw [hE.out, hK.out]
              show pE (.more false t) (opKey false :: kat l (j + 1)) = _
              rw [pE_more, ← hj1.out, g1]
            · rw [Tree.size, ← hL1, flat, ← hb1.out, show (((b1 : Nat) : Int) - 1) = (b1 : Int) - 1 from rfl, show ((b1 + u.size : Nat) : Int) - 1 = (b2 : Int) - 1 by have := hb1.out; omega]
              exact hO5
          have hmeas : rowM l.length (.int .i64 (j2 : Int)) < rowM l.length (.int .i64 (j : Int)) := by
            rw [rowM_nat, rowM_nat]
            have := hj1.out
            omega
          replace hmeas := hid hmeas
          replace RUN := hid RUN
          clear hO hL hsz hO3 hB3 hlow3 hO4 hlow4 hlen3 RUN2 hO5 hB5 hlow5 g1 g2 g3 g4 g5 cI cP hE hK hL1 hb2
          go_wp2_with (at_builtin; first | (refine wpList_append_run _ rfl _ _ 22 rfl _ _ _ _ rfl rfl RUN.out ?_) | (refine wpList_append_run _ rfl _ _ 22 rfl _ _ _ _ rfl rfl RUN2'.out ?_))
          exact ⟨hfin.out, hmeas.out⟩
end Go.Proofs.YtjhodmpgggaknaaGreatDoor
/- The document's rows, both. -/
/- The document's parts and conditions. -/
namespace Go.Proofs.YtjhodmpgggaknaaGreatDoor
open Go.RowKit Go.Shelf Go.Maps
theorem pE_comp {ks : List Key} (h1 : isK 1 [110, 111, 116] ks = false) (h2 : isK 4 [40] ks = false) : pE .one ks = (cmpP ks).map (fun p => (.leaf p.1, p.2)) := by
  cases ks with
  | nil => rfl
  | cons x r => exact pE_cmp (fun e => isK_no h1 r (by rw [e]; rfl)) (fun e => isK_no h2 r (by rw [e]; rfl))
theorem rowD_comp {l : List Tk} {i base : Nat} {w w' : World} {e : Ending} (hi : i ≤ l.length) (h1 : isK 1 [110, 111, 116] (kat l i) = false) (h2 : isK 4 [40] (kat l i) = false) (h : CmpD l i w e w') : RowD l .one i base w e w' := by
  obtain ⟨hb, ⟨e1, rfl⟩ | ⟨c, j, e1, hj, vn, rfl, ho⟩⟩ := h
  · exact ⟨hb, .inl ⟨by rw [pE_comp h1 h2, e1]; rfl, _, [], rfl, ownN_nil _ _, by simp; omega⟩⟩
  · have hs := cmpP_short e1
    rw [kat_len, kat_len] at hs
    exact ⟨hb, .inr ⟨.leaf c, j, vn, by rw [pE_comp h1 h2, e1]; rfl, by omega, hj, by simp only [Tree.size]; omega, rfl, ho⟩⟩
set_option maxRecDepth 100000 in
set_option maxHeartbeats 4000000 in
theorem partAnd_any {w : World} {v : Value} {l : List Tk} (h : IsDs w v l) (hl : l.length ≤ 8000000) (hsm : ∀ t ∈ l, t.text.length ≤ 4096) (i base : Nat) (hi : i ≤ l.length) (hb : base ≤ i)
    (hone : ∀ (W : World) (i' base' : Nat), Below w.heap.size w W → i < i' → i' ≤ l.length → base' ≤ i' → Calls Tryz.prog 61 #[v, .int .i64 (i' : Int), .int .i64 (base' : Int), .string ⟨([97, 110, 100] : Tx).toArray⟩] W (RowD l .one i' base' W))
    (hcond : ∀ (W : World) (i' base' : Nat), Below w.heap.size w W → i < i' → i' ≤ l.length → base' ≤ i' → Calls Tryz.prog 21 #[v, .int .i64 (i' : Int), .int .i64 (base' : Int)] W (RowD l .or i' base' W)) :
    Calls Tryz.prog 61 #[v, .int .i64 (i : Int), .int .i64 (base : Int), .string ⟨([97, 110, 100] : Tx).toArray⟩] w (RowD l .one i base w) := by
  have cI := hid (fun W (hb : Below w.heap.size w W) p k t => is_low (h.below hb) p k t)
  have cO := hid hone
  have cC := hid hcond
  have cM := hid (fun W (hb : Below w.heap.size w W) => rcomp_any (h.below hb) hl hsm i (by omega))
  obtain ⟨a, c, rfl⟩ := h.slice
  have hl8 := hid hl
  have hbi := hid hb
  have hil := hid hi
  obtain ⟨i1, hi1⟩ : ∃ n : Nat, n = i + 1 := ⟨_, rfl⟩
  have v1 : IntKind.i64.wrap ((i : Int) + 1) = (i1 : Int) := by rw [IntKind.wrap_i64]; omega
  have hl1 := hid (show i < i1 by omega)
  replace hi1 := hid hi1
  clear h hone hcond hl hi hb hsm
  go_enter Tryz.func61, Tryz.ntmps61
  cases q : isK 1 [110, 111, 116] (kat l i)
  · replace q := hid q
    go_wp2_with fail
    refine (cI.out w (Below.refl _ _) i 1 [110, 111, 116]).mono ?_
    rw [q.out]
    rintro e V ⟨rfl, vb⟩
    have hL := hid vb
    clear vb
    cases q2 : isK 4 [40] (kat l i)
    · replace q2 := hid q2
      go_wp2_with fail
      refine (cI.out V hL.out i 4 [40]).mono ?_
      rw [q2.out]
      rintro e V2 ⟨rfl, vb⟩
      replace hL := hid (low' hL.out vb)
      clear vb
      have hfinal := hid (fun e w' (h : CmpD l i V2 e w') => show RowD l .one i base w e w' from by
        obtain ⟨hb, h⟩ := h
        refine rowD_comp hil.out q.out q2.out ⟨low' hL.out hb, ?_⟩
        rcases h with h | ⟨c, j, e1, hj, vn, e2, ho⟩
        · exact .inl h
        · exact .inr ⟨c, j, e1, hj, vn, e2, ho.base hL.out.size⟩)
      go_wp2_with fail
      refine (cM.out V2 hL.out).mono ?_
      intro e V3 hc
      have hfin := hid (hfinal.out _ _ hc)
      obtain ⟨-, ⟨-, rfl⟩ | ⟨cc, j, -, -, vn, rfl, -⟩⟩ := hc
      · clear cI cO cC cM hfinal
        go_wp2
        go_ret2
        exact hfin.out
      · clear cI cO cC cM hfinal
        go_wp2
        go_ret2
        exact hfin.out
    · have hq := isK_sign q2 (by decide)
      have hK := hid hq.2
      have hil1 := hid (show i1 ≤ l.length by have := hi1.out; have := hq.1; omega)
      replace q2 := hid q2
      clear hq
      go_wp2_with fail
      refine (cI.out V hL.out i 4 [40]).mono ?_
      rw [q2.out]
      rintro e V2 ⟨rfl, vb⟩
      replace hL := hid (low' hL.out vb)
      clear vb
      have hpE : Hid (pE .one (kat l i) = closeF (pE .or (kat l i1))) := by
        show _ = _
        rw [hK.out, hi1.out]
        exact pE_open _
      go_wp2_with fail
      refine (cC.out V2 i1 base hL.out hl1.out hil1.out (by have := hbi.out; have := hl1.out; omega)).mono ?_
      rintro e V3 ⟨vb, ⟨g1, vn, ms, rfl, g2, g3⟩ | ⟨u, j, vn, g1, g2, g3, g4, rfl, g5⟩⟩
      · have hL3 := hid (low' hL.out vb)
        have hfin : Hid (RowD l .one i base w (.returned (.tuple #[.slice none 0 0, .int .i64 (-1)])) V3) := ⟨hL3.out, .inl ⟨by rw [hpE.out, g1]; rfl, _, [], rfl, ownN_nil _ _, by have := hil.out; simp; omega⟩⟩
        clear cI cO cC cM hpE hK g1 g2 g3 vb
        go_wp2
        go_ret2
        exact hfin.out
      · have hL3 := hid (low' hL.out vb)
        have hO3 := hid (g5.base (B' := w.heap.size) hL.out.size)
        obtain ⟨j1, hj1⟩ : ∃ n : Nat, n = j + 1 := ⟨_, rfl⟩
        have v2 : IntKind.i64.wrap ((j : Int) + 1) = (j1 : Int) := by rw [IntKind.wrap_i64]; have := hl8.out; omega
        have vneg : decide ((j : Int) < 0) = false := decide_eq_false (by omega)
        have gg := hid g1
        have g24 := hid (And.intro g2 g4)
        clear g1 g2 g4 g5 vb
        cases q3 : isK 4 [41] (kat l j)
        · have hnone : pE .one (kat l i) = none := by
            rw [hpE.out, gg.out]
            cases hk : kat l j with
            | nil => rfl
            | cons y r2 =>
              rw [closeF, if_neg]
              rintro rfl
              rw [hk] at q3
              cases q3
          have hfin : Hid (∀ W, Below w.heap.size w W → RowD l .one i base w (.returned (.tuple #[.slice none 0 0, .int .i64 (-1)])) W) := fun W hb => ⟨hb, .inl ⟨hnone, _, [], rfl, ownN_nil _ _, by have := hil.out; simp; omega⟩⟩
          clear hnone
          replace q3 := hid q3
          go_wp2_with fail
          refine (cI.out V3 hL3.out j 4 [41]).mono ?_
          rw [q3.out]
          rintro e V4 ⟨rfl, vb⟩
          have hL4 := hid (low' hL3.out vb)
          clear cI cO cC cM hpE hK vb g3 hj1
          go_wp2
          go_ret2
          exact hfin.out _ hL4.out
        · have hq := isK_sign q3 (by decide)
          have hfin : Hid (∀ W, Below w.heap.size w W → OwnN w.heap.size W vn (flat base u) → RowD l .one i base w (.returned (.tuple #[vn, .int .i64 (j1 : Int)])) W) := fun W hb ho => ⟨hb, .inr ⟨u, j1, vn, by
            rw [hpE.out, gg.out, hq.2, hj1]
            rfl, by have := g24.out; have := hl1.out; omega, by have := hq.1; omega, by have := g24.out; have := hl1.out; omega, rfl, ho⟩⟩
          replace q3 := hid q3
          replace hj1 := hid hj1
          clear hq
          go_wp2_with fail
          refine (cI.out V3 hL3.out j 4 [41]).mono ?_
          rw [q3.out]
          rintro e V4 ⟨rfl, vb⟩
          have hfin2 := hid (hfin.out V4 (low' hL3.out vb) (hO3.out.below vb))
          clear cI cO cC cM hpE hK vb g3 hfin hO3
          go_wp2
          go_ret2
          exact hfin2.out
  · have hq := isK_sign q (by decide)
    have hK := hid hq.2
    have hil1 := hid (show i1 ≤ l.length by have := hi1.out; have := hq.1; omega)
    replace q := hid q
    clear hq
    go_wp2_with fail
    refine (cI.out w (Below.refl _ _) i 1 [110, 111, 116]).mono ?_
    rw [q.out]
    rintro e V ⟨rfl, vb⟩
    have hL := hid vb
    clear vb
    have hpE : Hid (pE .one (kat l i) = (pE .one (kat l i1)).map (fun p => (.neg p.1, p.2))) := by
      show _ = _
      rw [hK.out, hi1.out]
      exact pE_not _
    go_wp2_with fail
    refine (cO.out V i1 base hL.out hl1.out hil1.out (by have := hbi.out; have := hl1.out; omega)).mono ?_
    rintro e V3 ⟨vb, ⟨g1, vn, ms, rfl, g2, g3⟩ | ⟨u, j, vn, g1, g2, g3, g4, rfl, g5⟩⟩
    · have hL3 := hid (low' hL.out vb)
      have hfin : Hid (RowD l .one i base w (.returned (.tuple #[.slice none 0 0, .int .i64 (-1)])) V3) := ⟨hL3.out, .inl ⟨by rw [hpE.out, g1]; rfl, _, [], rfl, ownN_nil _ _, by have := hil.out; simp; omega⟩⟩
      clear cI cO cC cM hpE hK g1 g2 g3 vb
      go_wp2
      go_ret2
      exact hfin.out
    · have hL3 := hid (low' hL.out vb)
      have hO3 := g5.base (B' := w.heap.size) hL.out.size
      obtain ⟨na, nc, rfl⟩ := hO3.sized (flat_len u base)
      have up := u.pos
      have ul : u.size ≤ 8000000 := by have := hl8.out; omega
      have bl : base ≤ 8000000 := by have := hl8.out; have := hbi.out; have := hil.out; omega
      obtain ⟨b1, hb1⟩ : ∃ n : Nat, n = base + u.size := ⟨_, rfl⟩
      have v2 : IntKind.i64.wrap ((base : Int) + (u.size : Int)) = (b1 : Int) := by rw [IntKind.wrap_i64]; omega
      have v3 : IntKind.i64.wrap ((b1 : Int) - 1) = (b1 : Int) - 1 := by rw [IntKind.wrap_i64]; omega
      have vneg : decide ((j : Int) < 0) = false := decide_eq_false (by omega)
      obtain ⟨qa, qc, P5, RUN, hO5, hB5⟩ := pushN_run hO3 (negNd ((b1 : Int) - 1)) rfl (by rw [flat_len]; omega) hL3.out.size
      rw [flat_len] at RUN hO5
      have RUN2 : Hid (∀ ty, (Builtin.append_ #[22, 22] ty #[.slice na u.size nc, .slice (some ⟨V3.heap.size, 0, none⟩) 1 1]).run Tryz.prog (V3.alloc (.cells #[.int .u8 3, .int .u8 0, .slice none 0 0, .int .i64 0, .int .u8 0, .int .i64 0, .int .i64 ((b1 : Int) - 1), .int .i64 0] 31)) = .ok (.slice qa (u.size + 1) qc) P5) := RUN
      have hfin : Hid (RowD l .one i base w (.returned (.tuple #[.slice qa (u.size + 1) qc, .int .i64 (j : Int)])) P5) := by
        refine ⟨hL3.out.trans hB5, .inr ⟨.neg u, j, _, by rw [hpE.out, g1]; rfl, by have := hl1.out; omega, g3, by have := hl1.out; simp only [Tree.size]; omega, rfl, ?_⟩⟩
        rw [flat, ← hb1]
        exact hO5
      replace hb1 := hid hb1
      clear cI cO cC cM hpE hK g1 g2 g3 g4 g5 vb RUN hO5 hB5 hO3
      go_wp2_with (at_builtin; refine wpList_append_run _ rfl _ _ 22 rfl _ _ _ _ rfl rfl RUN2.out ?_)
      go_ret2
      exact hfin.out
set_option maxRecDepth 100000 in
set_option maxHeartbeats 1000000 in
theorem partOr_any {w : World} {v : Value} {l : List Tk} (i base : Nat) (hs : ∃ a c, v = .slice a l.length c)
    (hrow : Calls Tryz.prog 40 #[v, .int .i64 (i : Int), .int .i64 (base : Int), .string ⟨([97, 110, 100] : Tx).toArray⟩] w (RowD l .and i base w)) :
    Calls Tryz.prog 61 #[v, .int .i64 (i : Int), .int .i64 (base : Int), .string ⟨([111, 114] : Tx).toArray⟩] w (RowD l .and i base w) := by
  obtain ⟨a, c, rfl⟩ := hs
  have cR := hid hrow
  clear hrow
  go_enter Tryz.func61, Tryz.ntmps61
  go_wp2_with fail
  refine cR.out.mono ?_
  intro e V hr
  have hfin := hid hr
  obtain ⟨-, ⟨-, vn, ms, rfl, -, -⟩ | ⟨u, j, vn, -, -, -, -, rfl, -⟩⟩ := hr
  · clear cR
    go_wp2
    go_ret2
    exact hfin.out
  · clear cR
    go_wp2
    go_ret2
    exact hfin.out
set_option maxRecDepth 100000 in
set_option maxHeartbeats 1000000 in
theorem cond_of {w : World} {v : Value} {l : List Tk} (i base : Nat) (hs : ∃ a c, v = .slice a l.length c)
    (hrow : Calls Tryz.prog 40 #[v, .int .i64 (i : Int), .int .i64 (base : Int), .string ⟨([111, 114] : Tx).toArray⟩] w (RowD l .or i base w)) :
    Calls Tryz.prog 21 #[v, .int .i64 (i : Int), .int .i64 (base : Int)] w (RowD l .or i base w) := by
  obtain ⟨a, c, rfl⟩ := hs
  have cR := hid hrow
  clear hrow
  go_enter Tryz.func21, Tryz.ntmps21
  go_wp2_with fail
  refine cR.out.mono ?_
  intro e V hr
  have hfin := hid hr
  obtain ⟨-, ⟨-, vn, ms, rfl, -, -⟩ | ⟨u, j, vn, -, -, -, -, rfl, -⟩⟩ := hr
  · clear cR
    go_wp2
    go_ret2
    exact hfin.out
  · clear cR
    go_wp2
    go_ret2
    exact hfin.out
/-- the document's conditions, from any token on. -/
theorem conds_any : ∀ (n : Nat) {w : World} {v : Value} {l : List Tk} (_ : IsDs w v l) (_ : l.length ≤ 8000000) (_ : ∀ t ∈ l, t.text.length ≤ 4096) (i base : Nat), i ≤ l.length → base ≤ i → l.length < n + i →
    Calls Tryz.prog 61 #[v, .int .i64 (i : Int), .int .i64 (base : Int), .string ⟨([97, 110, 100] : Tx).toArray⟩] w (RowD l .one i base w) ∧ Calls Tryz.prog 21 #[v, .int .i64 (i : Int), .int .i64 (base : Int)] w (RowD l .or i base w)
  | 0, _, _, _, _, _, _, _, _, h1, _, h2 => by omega
  | n + 1, w, v, l, h, hl, hsm, i, base, hi, hb, hn => by
    have one : ∀ (W : World) (i' base' : Nat), Below w.heap.size w W → i ≤ i' → i' ≤ l.length → base' ≤ i' → Calls Tryz.prog 61 #[v, .int .i64 (i' : Int), .int .i64 (base' : Int), .string ⟨([97, 110, 100] : Tx).toArray⟩] W (RowD l .one i' base' W) := fun W i' base' hW h1 h2 h3 =>
      partAnd_any (h.below hW) hl hsm i' base' h2 h3 (fun W2 i2 b2 hW2 a1 a2 a3 => (conds_any n ((h.below hW).below hW2) hl hsm i2 b2 a2 a3 (by omega)).1) (fun W2 i2 b2 hW2 a1 a2 a3 => (conds_any n ((h.below hW).below hW2) hl hsm i2 b2 a2 a3 (by omega)).2)
    have and_ : ∀ (W : World) (i' base' : Nat), Below w.heap.size w W → i ≤ i' → i' ≤ l.length → base' ≤ i' → Calls Tryz.prog 40 #[v, .int .i64 (i' : Int), .int .i64 (base' : Int), .string ⟨([97, 110, 100] : Tx).toArray⟩] W (RowD l .and i' base' W) := fun W i' base' hW h1 h2 h3 =>
      rowAnd_any (h.below hW) hl i' base' h2 h3 fun W2 i2 b2 hW2 a1 a2 a3 => one W2 i2 b2 (low' hW hW2) (by omega) a2 a3
    exact ⟨one w i base (Below.refl _ _) (Nat.le_refl _) hi hb, cond_of i base h.slice (rowOr_any h hl i base hi hb fun W2 i2 b2 hW2 a1 a2 a3 => partOr_any i2 b2 h.slice (and_ W2 i2 b2 hW2 a1 a2 a3))⟩
theorem cond_any {w : World} {v : Value} {l : List Tk} (h : IsDs w v l) (hl : l.length ≤ 8000000) (hsm : ∀ t ∈ l, t.text.length ≤ 4096) (i base : Nat) (hi : i ≤ l.length) (hb : base ≤ i) : Calls Tryz.prog 21 #[v, .int .i64 (i : Int), .int .i64 (base : Int)] w (RowD l .or i base w) := (conds_any (l.length + 1) h hl hsm i base hi hb (by omega)).2
end Go.Proofs.YtjhodmpgggaknaaGreatDoor
