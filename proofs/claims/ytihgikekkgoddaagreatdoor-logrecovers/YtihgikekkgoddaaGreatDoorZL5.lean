/- Contract of makeFile. -/
import Derived.Test.YtihgikekkgoddaaGreatDoorZL4
import Derived.Stop.RegionWithIn
import Derived.Deep.RegionHeld3
namespace Go.Proofs.YtihgikekkgoddaaGreatDoor
open Go.RowKit Go.Shelf Sto
attribute [local go_sem] Oper.semAt_some

/-- a log's function at its loop: boxes of the log, of what it answers, of what goes over the files. -/
structure Pre (w W0 : World) (lb : Nat) : Prop where
  size : W0.heap.size = w.heap.size + 3
  low : Below w.heap.size w W0
  l : Boxed W0 w.heap.size 24 (.pointer (some ⟨lb, 0, none⟩))
  r : Boxed W0 (w.heap.size + 1) 26 (.int .i64 0)
  own : W0.cell? ⟨w.heap.size + 2, 0, none⟩ = some (ptr lb)
theorem pre_of (w : World) (lb : Nat) : Pre w (((w.alloc (.cells #[Value.pointer (some ⟨lb, 0, none⟩)] 24)).alloc (.cells #[Value.int .i64 0] 26)).alloc (.cells #[Value.pointer (some ⟨lb, 0, none⟩)] 24)) lb := by
  refine ⟨by simp, (((Below.refl _ w).alloc (Nat.le_refl _) _).alloc (by simp) _).alloc (by simp; omega) _, ((Boxed.new w _ _).alloc _).alloc _, ?_, ?_⟩
  · have := (Boxed.new (w.alloc (.cells #[Value.pointer (some ⟨lb, 0, none⟩)] 24)) 26 (.int .i64 0)).alloc (.cells #[Value.pointer (some ⟨lb, 0, none⟩)] 24)
    rwa [World.size_alloc] at this
  · have := (Boxed.new ((w.alloc (.cells #[Value.pointer (some ⟨lb, 0, none⟩)] 24)).alloc (.cells #[Value.int .i64 0] 26)) 24 (.pointer (some ⟨lb, 0, none⟩))).cell
    rwa [World.size_alloc, World.size_alloc] at this
theorem boxed_drew {W : World} {b : Nat} {ty : TypeId} {v : Value} (h : Boxed W b ty v) : Boxed W.drew b ty v := h
theorem own_member {p : List UInt8} {t : St} {q : Part} (hq : q.ok) (h : nameOf p q ∈ namesOf t) : ∃ j, j < (ownT p t).length ∧ (ownT p t)[j]? = some (nameOf p q, q) := by
  have : (nameOf p q, q) ∈ ownT p t := mem_own.2 ⟨h, hq, rfl⟩
  obtain ⟨j, hj, e⟩ := List.getElem_of_mem this
  exact ⟨j, hj, by rw [List.getElem?_eq_getElem hj, e]⟩

/-- Q, and no panic. -/
def noPanic (Q : Exit → Act → World → Prop) : Exit → Act → World → Prop
  | .normal, a, w => Q .normal a w
  | .ret, a, w => Q .ret a w
  | .exit id, a, w => Q (.exit id) a w
  | .goto t, a, w => Q (.goto t) a w
  | .panic _, _, _ => False
  | .outgrown, _, _ => False
theorem noPanic_le (Q : Exit → Act → World → Prop) : ∀ e a w, noPanic Q e a w → Q e a w := by
  intro e a w h
  cases e with
  | panic c => exact h.elim
  | outgrown => exact h.elim
  | _ => exact h
open Classical in
noncomputable def makeFileA (p : List UInt8) (n : Nat) (t : St) : Int × St := if nameOf p (pLog n) ∈ namesOf t then (0, t) else t.append (nameOf p (pLog n)) []
theorem isB_nil (w : World) : IsB w (.slice none 0 0) [] := ⟨by simp, none, 0, rfl, .inl rfl⟩
set_option maxRecDepth 100000 in
set_option maxHeartbeats 4000000 in
theorem makeFile_any (w : World) {B lb : Nat} {g : Gs} {t : St} {x : Lg} (h : Bo B w lb g t x) (hgood : Good x.p (namesOf t)) (hp : x.p.length ≤ 16) (hn : x.n < 100) (ha : t.acts < 4611686018427387904) {r : Int} {t' : St} (ht : makeFileA x.p x.n t = (r, t')) :
    Calls Tryz.prog 30 #[ptr lb] w fun e w' => e = .returned (.int .i64 r) ∧ ∃ g', BStep B lb w w' g g' x x t' := by
  have hyes : Hid (nameOf x.p (pLog x.n) ∈ namesOf t → r = 0 ∧ t' = t) := fun hin => by unfold makeFileA at ht; rw [if_pos hin] at ht; cases ht; exact ⟨rfl, rfl⟩
  have hno : Hid (nameOf x.p (pLog x.n) ∉ namesOf t → t.append (nameOf x.p (pLog x.n)) [] = (r, t')) := fun hin => by unfold makeFileA at ht; rwa [if_neg hin] at ht
  clear ht
  refine (callsIn_wide (n := 9)).1 ?_
  refine callsIn_of_wp_marks Tryz.func30 rfl trivial ?_ rfl
  simp only [Tryz.ntmps30, List.size_toArray, List.length_cons, List.length_nil, Nat.reduceAdd, Nat.reduceSub, Array.replicate_succ, Array.replicate_zero, List.push_toArray, List.append_toArray, List.nil_append, List.cons_append]
  have ho := hid (fun W => own_any W lb)
  have H := hid h
  clear h
  unfold ptr at ho ⊢
  gi_wp2_with fail
  refine ⟨trivial, (callsIn_wide.2 (ho.out _)).mono ?_⟩
  rintro e w1 ⟨rfl, rfl⟩
  gi_wp2_with fail
  obtain ⟨hs0, hb0, hxl, hxr, hx1⟩ := pre_of w lb
  generalize ((w.alloc (.cells #[Value.pointer (some ⟨lb, 0, none⟩)] 24)).alloc (.cells #[Value.int .i64 0] 26)).alloc (.cells #[Value.pointer (some ⟨lb, 0, none⟩)] 24) = W0 at *
  have H0 := hid (H.out.below hb0)
  have hlt := H.out.log.lt
  refine range2 (gf := 80) (lb := #[.pointer (some ⟨w.heap.size + 2, 0, none⟩)]) rfl (enters_of Tryz.func80 (by kernel_rfl) rfl)
    (own_gives W0 (bx := w.heap.size + 2) H0.out.is H0.out.log rfl hx1 hgood)
    (fun k args hy => by obtain ⟨_, _, _, rfl⟩ := hy; rfl)
    (fun hi k W => Below W0.heap.size W0 W ∧ ∀ j nm q, j < k → (ownT x.p t)[j]? = some (nm, q) → q ≠ pLog x.n)
    (fun c hi k W => c = .ret ∧ nameOf x.p (pLog x.n) ∈ namesOf t ∧ Boxed W (w.heap.size + 1) 26 (.int .i64 0) ∧ Below w.heap.size w W)
    (fun hi k A C hi0 hk => ⟨low2 hi0.1 hi0.1.size hk (fun b hb => by omega), hi0.2⟩)
    (fun c hi k A C hi0 hk => ⟨hi0.1, hi0.2.1, (hk.block _ hi0.2.2.1.lt (by omega)).trans hi0.2.2.1, low2 hi0.2.2.2 hi0.2.2.2.size hk (fun b hb => by omega)⟩)
    (fun hi k A hi0 => ⟨(hi0.1.cell (p := ⟨w.heap.size + 2, 0, none⟩) (by show w.heap.size + 2 < W0.heap.size; omega)).trans hx1, ((H0.out.log.below hi0.1).cells).2.1⟩)
    (fun hi _ => ⟨Below.refl _ _, fun j nm q hj => by omega⟩)
    (fun args W => { tmps := #[.pointer (some ⟨lb, 0, none⟩), .pointer (some ⟨w.heap.size, 0, none⟩), .pointer (some ⟨w.heap.size + 1, 0, none⟩), undef, .pointer (some ⟨W.heap.size, 0, none⟩), .pointer (some ⟨lb, 0, none⟩), .func (.func 80) #[] #[.pointer (some ⟨w.heap.size + 2, 0, none⟩)], args.getD 0 undef, args.getD 1 undef, undef, undef, undef, undef, undef, undef, undef, undef, undef, undef, undef, undef, undef, undef, undef, undef, undef, undef, undef, undef, undef, undef, undef], defers := [] })
    wPart wPart_low ?assign ?body ?done ?stop
  case assign =>
    rintro i l1 k args W K ⟨nm, q, _, rfl⟩ hK
    unfold wPart partCells partV str at hK
    unfold partV str
    gi_wp2
    exact hK
  case body =>
    rintro i l1 hi k args V W hk hh1 hh2 ⟨hB, hnn⟩ ⟨nm, q, hq, rfl⟩ hkp
    obtain ⟨p0, p1⟩ := part_box (by omega) hkp
    have hm : (nm, q) ∈ ownT x.p t := List.mem_of_getElem? hq
    obtain ⟨hm1, hm2, hm3⟩ := mem_own.1 hm
    have hsW := hB.size
    have hkz : V.heap.size < W.heap.size := by have := hkp.size; unfold wPart at this; simp at this; omega
    have hxlW : Boxed W w.heap.size 24 (.pointer (some ⟨lb, 0, none⟩)) := (hB.block _ (by omega)).trans hxl
    have hxrW : Boxed W (w.heap.size + 1) 26 (.int .i64 0) := (hB.block _ (by omega)).trans hxr
    have HW := hid (H0.out.below hB)
    have cl := hxlW.cell
    have cn := (HW.out.log.cells).2.2.1
    have c3 := hxrW.cell
    have f3 := hxrW.frozen
    have lies2 : Hid (Lies W0.heap.size hi W W.drew) := ⟨Nat.le_refl _, fun b h1 h2 => rfl⟩
    have HBd : Hid (Below W0.heap.size W0 W.drew) := hB.drew
    by_cases hkn : q.kind = kLog
    · by_cases hkm : q.num = x.n
      · have hqe : q = pLog x.n := by obtain ⟨k1, n1⟩ := q; simp only at hkn hkm; rw [hkn, hkm]; rfl
        subst hqe
        simp only at hm1 hm3
        subst hm3
        replace p0 : W.cell? ⟨V.heap.size, 0, none⟩ = some (.string ⟨#[108, 111, 103, 46]⟩) := p0
        replace p1 : W.cell? ⟨V.heap.size, 1, none⟩ = some (.int .i64 (x.n : Int)) := p1
        have HX := hid hxrW
        have HB := hid hB
        have HM := hid hm1
        have box1 : Hid (Boxed (W.drew.setCell ⟨w.heap.size + 1, 0, none⟩ (.int .i64 0)) (w.heap.size + 1) 26 (.int .i64 0)) := (boxed_drew hxrW).set _
        have low1 : Hid (Below w.heap.size w (W.drew.setCell ⟨w.heap.size + 1, 0, none⟩ (.int .i64 0))) := ((hb0.trans (hB.mono (by omega))).drew).setCell (p := ⟨w.heap.size + 1, 0, none⟩) (by show w.heap.size ≤ w.heap.size + 1; omega) _
        have lies1 : Hid (Lies W0.heap.size hi W (W.drew.setCell ⟨w.heap.size + 1, 0, none⟩ (.int .i64 0))) := ⟨by simp [World.setCell], fun b h1 h2 => by rw [heap_set _ _ _ _ _ (by omega)]; rfl⟩
        clear hq hm hnn hkp hkn hkm hm2 hxrW hxlW hB hm1 hx1 hxr hxl hyes hno
        (try unfold str at *); (try unfold partV at *); (try unfold str at *)
        have hmix : Tryz.prog.follows .mixedOrders = true := by kernel_rfl
        gi_wp2_with fail
        gi_region_o
        all_goals
          gi_wp2
          exact ⟨lies1.out, rfl, HM.out, box1.out, low1.out⟩
      · have hk0 : ((q.num : Int) == (x.n : Int)) = false := by simp; omega
        replace p0 : W.cell? ⟨V.heap.size, 0, none⟩ = some (.string ⟨#[108, 111, 103, 46]⟩) := by rw [p0, hkn]; rfl
        have hnx : Hid (∀ j nm' q', j < k + 1 → (ownT x.p t)[j]? = some (nm', q') → q' ≠ pLog x.n) := fun j nm' q' hj hj2 => by
          by_cases e : j = k
          · subst e; rw [hq] at hj2; cases hj2; intro e; exact hkm (by rw [e]; rfl)
          · exact hnn j nm' q' (by omega) hj2
        have HB := hid hB
        clear hq hm hnn hkp hkn hkm hm2 hxrW hxlW hB hm1 hm3 hx1 hxr hxl hyes hno
        (try unfold str at *); (try unfold partV at *); (try unfold str at *)
        have hmix : Tryz.prog.follows .mixedOrders = true := by kernel_rfl
        gi_wp2_with fail
        gi_region_o
        all_goals
          gi_wp2
          exact ⟨lies2.out, HBd.out, hnx.out⟩
    · have hk0 : (q.kind == [108, 111, 103, 46]) = false := by simpa [kLog] using hkn
      have hnx : Hid (∀ j nm' q', j < k + 1 → (ownT x.p t)[j]? = some (nm', q') → q' ≠ pLog x.n) := fun j nm' q' hj hj2 => by
        by_cases e : j = k
        · subst e; rw [hq] at hj2; cases hj2; intro e; exact hkn (by rw [e]; rfl)
        · exact hnn j nm' q' (by omega) hj2
      have HB := hid hB
      clear hq hm hnn hkp hkn hm2 hxrW hxlW hB hm1 hm3 hx1 hxr hxl hyes hno
      (try unfold str at *); (try unfold partV at *); (try unfold str at *)
      have hmix : Tryz.prog.follows .mixedOrders = true := by kernel_rfl
      gi_wp2_with fail
      gi_region_o
      all_goals
        gi_wp2
        exact ⟨lies2.out, HBd.out, hnx.out⟩
  case done =>
    rintro hi W hh1 hh2 ⟨hB, hnn⟩ hdf
    have hnot : nameOf x.p (pLog x.n) ∉ namesOf t := fun hin => by
      obtain ⟨j, hj, e⟩ := own_member (ok_log hn) hin
      exact hnn j _ _ hj e rfl
    have hta := hno.out hnot
    have hxlW : Boxed W w.heap.size 24 (.pointer (some ⟨lb, 0, none⟩)) := (hB.block _ (by omega)).trans hxl
    have hxrW : Boxed W (w.heap.size + 1) 26 (.int .i64 0) := (hB.block _ (by omega)).trans hxr
    have HW := hid (H0.out.below hB)
    have hnm : Hid (x.p ++ (kLog ++ dg x.n) = nameOf x.p (pLog x.n)) := by show _ = _; unfold nameOf; rw [text_log]
    have hlen := nameOf_len (ok_log hn) hp
    have hfile : Hid (∀ V, Below W.heap.size W V → Calls Tryz.prog 37 #[ptr lb, str [108, 111, 103, 46], .int .i64 (x.n : Int)] V fun e w' => e = .returned (str (nameOf x.p (pLog x.n))) ∧ Below V.heap.size V w') := fun V hV => by
      have := file_any V (HW.out.log.below hV) kLog x.n hn hp (by decide)
      rw [hnm.out] at this
      exact this
    have happ := hid (fun V (hV : Below W.heap.size W V) => append_t V (HW.out.is.below hV) (nameOf x.p (pLog x.n)) (by omega) (.slice none 0 0) [] (isB_nil V) ha hta)
    have cells : Hid (∀ V, Below W.heap.size W V → V.cell? ⟨w.heap.size, 0, none⟩ = some (.pointer (some ⟨lb, 0, none⟩)) ∧ V.cell? ⟨lb, 0, none⟩ = some (.pointer (some ⟨x.sb, 0, none⟩)) ∧ V.cell? ⟨lb, 2, none⟩ = some (.int .i64 (x.n : Int))) := fun V hV => by
      have hl := (HW.out.log.below hV).cells
      exact ⟨(hV.cell (p := ⟨w.heap.size, 0, none⟩) (by show w.heap.size < W.heap.size; omega)).trans hxlW.cell, hl.1, hl.2.2.1⟩
    have fin : Hid (∀ V w2 g', Below W.heap.size W V → Step B x.sb V w2 g g' → Is B w2 x.sb g' t' → w2.cell? ⟨w.heap.size + 1, 0, none⟩ = some (.int .i64 0) ∧ w2.frozen? ⟨w.heap.size + 1, 0, none⟩ = false ∧
        (w2.setCell ⟨w.heap.size + 1, 0, none⟩ (.int .i64 r)).heap[w.heap.size + 3]? = some (.deferred (some [])) ∧
        ((w2.setCell ⟨w.heap.size + 1, 0, none⟩ (.int .i64 r)).putObj (w.heap.size + 3) (.deferred none)).cell? ⟨w.heap.size + 1, 0, none⟩ = some (.int .i64 r) ∧
        BStep B lb w ((w2.setCell ⟨w.heap.size + 1, 0, none⟩ (.int .i64 r)).putObj (w.heap.size + 3) (.deferred none)) g g' x x t' ∧ w2.cell? ⟨w.heap.size, 0, none⟩ = some (.pointer (some ⟨lb, 0, none⟩)) ∧ w2.cell? ⟨lb, 0, none⟩ = some (.pointer (some ⟨x.sb, 0, none⟩)) ∧ w2.cell? ⟨lb, 2, none⟩ = some (.int .i64 (x.n : Int)) ∧ (w2.setCell ⟨w.heap.size + 1, 0, none⟩ (.int .i64 r)).cell? ⟨w.heap.size, 0, none⟩ = some (.pointer (some ⟨lb, 0, none⟩)) ∧ (w2.setCell ⟨w.heap.size + 1, 0, none⟩ (.int .i64 r)).cell? ⟨lb, 0, none⟩ = some (.pointer (some ⟨x.sb, 0, none⟩)) ∧ (w2.setCell ⟨w.heap.size + 1, 0, none⟩ (.int .i64 r)).cell? ⟨lb, 2, none⟩ = some (.int .i64 (x.n : Int))) := by
      intro V w2 g' hV hst his
      have hsV := hV.size
      have st := (HW.out.below hV).step hst his
      have nf : ∀ b, w.heap.size ≤ b → ¬ foot x.sb g b := fun b h1 hf => by have := H.out.is.1.lt hf; omega
      have bx : Boxed w2 (w.heap.size + 1) 26 (.int .i64 0) := (hst.kept.block _ (by omega) (nf _ (by omega))).trans ((hV.block _ (by omega)).trans hxrW)
      have df : w2.heap[w.heap.size + 3]? = some (.deferred (some [])) := (hst.kept.block _ (by omega) (nf _ (by omega))).trans ((hV.block _ (by omega)).trans (by rw [← hs0]; exact hdf))
      have kp : Frm.Kept (fun b => b = w.heap.size + 1 ∨ b = w.heap.size + 3) w2 ((w2.setCell ⟨w.heap.size + 1, 0, none⟩ (.int .i64 r)).putObj (w.heap.size + 3) (.deferred none)) := by
        have k1 : Frm.Kept (fun b => b = w.heap.size + 1 ∨ b = w.heap.size + 3) w2 (w2.setCell ⟨w.heap.size + 1, 0, none⟩ (.int .i64 r)) := ⟨rfl, rfl, rfl, by simp [World.setCell], fun b _ hn => heap_set _ _ _ _ _ (fun e => hn (.inl e))⟩
        exact k1.trans (Frm.kept_put (F := fun b => b = w.heap.size + 1 ∨ b = w.heap.size + 3) _ _ _ (.inr rfl)) (fun b hb => .inl hb)
      have bs := (bx.set (.int .i64 r)).cell
      have cl2 : w2.cell? ⟨w.heap.size, 0, none⟩ = some (.pointer (some ⟨lb, 0, none⟩)) := (World.cell?_of_block (a := ⟨w.heap.size, 0, none⟩) (hst.kept.block w.heap.size (by omega) (nf w.heap.size (Nat.le_refl _)))).trans (cells.out V hV).1
      have setc : ∀ (a : Addr), a.block ≠ w.heap.size + 1 → (w2.setCell ⟨w.heap.size + 1, 0, none⟩ (.int .i64 r)).cell? a = w2.cell? a := fun a ha => World.cell?_of_block (heap_set _ _ _ _ _ ha)
      refine ⟨bx.cell, bx.frozen, by rw [heap_set _ _ _ _ _ (by omega)]; exact df, put_cell bs (by omega), ?_, cl2, (st.bo.log.cells).1, (st.bo.log.cells).2.2.1, (setc _ (by show w.heap.size ≠ w.heap.size + 1; omega)).trans cl2, (setc _ (by show lb ≠ w.heap.size + 1; omega)).trans (st.bo.log.cells).1, (setc _ (by show lb ≠ w.heap.size + 1; omega)).trans (st.bo.log.cells).2.2.1⟩
      have stw : BStep B lb w w2 g g' x x t' := (H.out.same ((hb0.trans (hB.mono (by omega))).trans (hV.mono (by omega)))).trans st
      refine ⟨bo_kept stw.bo kp (fun b hb hh => ?_), kept_two stw.kept kp (fun b hb => .inr (by omega)), stw.fresh, rfl⟩
      rcases hb with hb | hb
      · rcases hst.fresh b hb with h8 | h8
        · exact nf b (by omega) h8
        · omega
      · omega
    obtain ⟨cl, cs, cn⟩ := cells.out W (Below.refl _ _)
    have hbW : Hid (Below W.heap.size W W ∧ Below W.heap.size W W.drew) := ⟨Below.refl _ _, (Below.refl _ _).drew⟩
    clear hB hnn hnot hta hxlW hxrW hdf hlen hxl hxr hx1 hyes hno hnm
    unfold str ptr at *
    generalize nameOf x.p (pLog x.n) = nm at *
    gi_wp2_with fail
    refine wpIn_wide.2 (Code.wp_mono (noPanic_le _) ?_)
    go_region_held (fun w' => w'.cell? ⟨w.heap.size, 0, none⟩ = some (.pointer (some ⟨lb, 0, none⟩)) ∧ w'.cell? ⟨lb, 0, none⟩ = some (.pointer (some ⟨x.sb, 0, none⟩)) ∧ w'.cell? ⟨lb, 2, none⟩ = some (.int .i64 (x.n : Int))) (go_keep) (first | (go_at_call 37; refine (hfile.out _ (by first | exact hbW.out.1 | exact hbW.out.2)).mono ?_; rintro e w1 ⟨rfl, hb1⟩; replace hb1 := hid (show Below W.heap.size W w1 from hbW.out.2.trans (hb1.mono (Nat.le_refl _))); obtain ⟨cl1, cs1, cn1⟩ := cells.out w1 hb1.out) | (go_at_call 36; refine (happ.out _ hb1.out).mono ?_; rintro e w2 ⟨rfl, g', hst, his⟩; obtain ⟨c2, f2, df2, cc2, st2, cl2, cs2, cn2, cl3, cs3, cn3⟩ := fin.out w1 w2 g' hb1.out hst his; replace st2 := hid st2; replace df2 := hid df2; replace cc2 := hid cc2; clear hst his))
    all_goals
      simp only [noPanic]
      gi_wp2
      refine ⟨by simp, .inl ⟨_, _, rfl, run_takeDeferred df2.out, ?_⟩⟩
      refine ⟨.int .i64 r, ?_, rfl, g', st2.out⟩
      have hcc := cc2.out
      simp [results, Tryz.f30, go_sem, hcc]
  case stop =>
    rintro hi c k W hh1 hh2 hk ⟨rfl, hin, hbx, hbw⟩ hdf
    obtain ⟨rfl, rfl⟩ := hyes.out hin
    have hc := hbx.cell
    rw [hs0] at hdf
    gi_wp2
    refine ⟨by simp, .inl ⟨_, _, rfl, run_takeDeferred hdf, ?_⟩⟩
    have hcc : (W.putObj (w.heap.size + 3) (.deferred none)).cell? ⟨w.heap.size + 1, 0, none⟩ = some (.int .i64 0) := put_cell hbx.cell (by omega)
    refine ⟨.int .i64 0, ?_, rfl, g, H.out.same (hbw.trans (Frm.below_put _ _ _ (by omega)))⟩
    simp [results, Tryz.f30, go_sem, hcc]
end Go.Proofs.YtihgikekkgoddaaGreatDoor
