/- The steps of opening. -/
import Derived.Test.YtihgikekkgoddaaGreatDoorZL11
namespace Go.Proofs.YtihgikekkgoddaaGreatDoor
open Go.RowKit Go.Shelf Sto

section
variable {B A lb : Nat} {WS : World} {g : Gs} {t : St} {sb : Nat} {p : List UInt8}
theorem OpenI.out {i : Nat} {W : World} {gi : Gs} {ti : St} {n c : Nat} {s : List UInt8} {recs : List (List UInt8)} {sv rv : Value} (h : OpenI B A lb WS g t sb p i W gi ti n c s recs sv rv) (hfg : ∀ b, foot sb g b → b < A) (hWS : WS.heap.size = lb + 2) : ∀ b, A ≤ b → b < lb + 2 → ¬ foot sb gi b := fun b h1 h2 hb => by
  rcases h.st.fresh b hb with h3 | h3
  · have := hfg b h3; omega
  · omega
/-- a step that fails leaves so. -/
def OpenX (B A lb : Nat) (WS : World) (g : Gs) (t : St) (sb : Nat) (p : List UInt8) (r : Int) (W : World) : Prop :=
  ∃ g' t' x' v1 v2, OpenNo p t r t' ∧ OSt B A lb WS W g g' sb x' t' ∧ Boxed W A 24 (ptr lb) ∧ Boxed W (A + 1) 22 v1 ∧ Boxed W (A + 2) 25 v2
def OpenQ (B A lb : Nat) (WS : World) (g : Gs) (t : St) (sb : Nat) (p : List UInt8) (i : Nat) (W : World) : Prop := ∃ gi ti n c s recs sv rv, OpenI B A lb WS g t sb p i W gi ti n c s recs sv rv
/-- the boxes behind a call. -/
theorem OpenI.boxes {i : Nat} {W W' : World} {gi g' : Gs} {ti t' : St} {n c : Nat} {s : List UInt8} {recs : List (List UInt8)} {sv rv : Value} {x' : Lg} (h : OpenI B A lb WS g t sb p i W gi ti n c s recs sv rv) (hfg : ∀ b, foot sb g b → b < A) (hlb : A + 3 ≤ lb) (hWS : WS.heap.size = lb + 2) (hs : BStep B lb W W' gi g' ⟨sb, p, n, c, false⟩ x' t') :
    Boxed W' A 24 (ptr lb) ∧ Boxed W' (A + 1) 22 sv ∧ Boxed W' (A + 2) 25 rv ∧ W'.heap[lb + 1]? = some (.cells (stepsOf A) 36) ∧ SnapAt (lb + 2) sb g' W' sv s ∧ RecsAt (lb + 2) sb g' W' rv recs := by
  have ho := h.out hfg hWS
  have nb : ∀ b, A ≤ b → b < lb + 2 → b ≠ lb → ¬ bfoot lb ⟨sb, p, n, c, false⟩ gi b := fun b h1 h2 h3 hb => hb.elim (ho b h1 h2) h3
  have hz := h.st.kept.size
  have hsb : x'.sb = sb := hs.sb
  have fr : ∀ b, foot sb g' b → foot sb gi b ∨ W.heap.size ≤ b := fun b hb => hs.fresh b (by rw [hsb]; exact hb)
  have hF : ∀ b, bfoot lb ⟨sb, p, n, c, false⟩ gi b → foot sb gi b ∨ b < lb + 2 := fun b hb => hb.imp id (fun e => by omega)
  exact ⟨(hs.kept.block _ h.bl.lt (nb _ (by omega) (by omega) (by omega))).trans h.bl, (hs.kept.block _ h.bs.lt (nb _ (by omega) (by omega) (by omega))).trans h.bs, (hs.kept.block _ h.br.lt (nb _ (by omega) (by omega) (by omega))).trans h.br, (hs.kept.block _ (lt_of_block h.fs) (nb _ (by omega) (by omega) (by omega))).trans h.fs, h.so.move hs.kept hF fr, h.ro.move hs.kept hF fr⟩
theorem step1 {W : World} (h : OpenQ B A lb WS g t sb p 0 W) (hfg : ∀ b, foot sb g b → b < A) (hlb : A + 3 ≤ lb) (hWS : WS.heap.size = lb + 2) (hp : p.length ≤ 16) (ha : t.acts + 200 < 4611686018427387904) :
    Calls Tryz.prog 25 #[ptr A] W (Errs fun r W' => (r = 0 ∧ OpenQ B A lb WS g t sb p 1 W') ∨ (r ≠ 0 ∧ OpenX B A lb WS g t sb p r W')) := by
  obtain ⟨gi, ti, n, c, s, recs, sv, rv, h⟩ := h
  refine open1 W A lb _ h.bl.cell ?_
  obtain ⟨r, t1, hr⟩ : ∃ r t1, dropNewA p ti = (r, t1) := ⟨_, _, rfl⟩
  have hac := h.acts
  have hrun := h.run
  have hsm := h.small
  refine (dropNew_any W h.st.bo h.good hp (by omega) hr).mono ?_
  rintro e W' ⟨rfl, g', hs⟩
  obtain ⟨b1, b2, b3, b4, b5, b6⟩ := h.boxes hfg hlb hWS hs
  obtain ⟨hg', hac'⟩ := dropNew_good h.good hr
  have st := h.st.trans hs (by omega) (by omega)
  cases hrun
  refine ⟨r, rfl, ?_⟩
  by_cases h0 : r = 0
  · subst h0
    exact .inl ⟨rfl, g', t1, 0, c, [], [], sv, rv, .s1 hr, st, b1, b2, b3, b4, b5, b6, hg', by omega, hsm, fun h => by omega, fun _ => rfl⟩
  · exact .inr ⟨h0, g', t1, _, sv, rv, .f1 hr h0, st, b1, b2, b3⟩
theorem step3 {W : World} (h : OpenQ B A lb WS g t sb p 2 W) (hfg : ∀ b, foot sb g b → b < A) (hlb : A + 3 ≤ lb) (hWS : WS.heap.size = lb + 2) (hp : p.length ≤ 16) (ha : t.acts + 200 < 4611686018427387904) :
    Calls Tryz.prog 29 #[ptr A] W (Errs fun r W' => (r = 0 ∧ OpenQ B A lb WS g t sb p 3 W') ∨ (r ≠ 0 ∧ OpenX B A lb WS g t sb p r W')) := by
  obtain ⟨gi, ti, n, c, s, recs, sv, rv, h⟩ := h
  refine open3 W A lb _ h.bl.cell ?_
  obtain ⟨r, t1, hr⟩ : ∃ r t1, makeFileA p n ti = (r, t1) := ⟨_, _, rfl⟩
  have hac := h.acts
  have hrun := h.run
  have hsm := h.small
  refine (makeFile_any W h.st.bo h.good hp hsm (by omega) hr).mono ?_
  rintro e W' ⟨rfl, g', hs⟩
  obtain ⟨b1, b2, b3, b4, b5, b6⟩ := h.boxes hfg hlb hWS hs
  obtain ⟨hg', hac'⟩ := makeFile_good hsm h.good hr
  have st := h.st.trans hs (by omega) (by omega)
  obtain rfl : recs = [] := by cases hrun; rfl
  refine ⟨r, rfl, ?_⟩
  by_cases h0 : r = 0
  · subst h0
    exact .inl ⟨rfl, g', t1, n, c, s, [], sv, rv, .s3 hrun hr, st, b1, b2, b3, b4, b5, b6, hg', by omega, hsm, fun h => by omega, fun h => by omega⟩
  · exact .inr ⟨h0, g', t1, _, sv, rv, .f3 hrun hr h0, st, b1, b2, b3⟩
theorem step5 {W : World} (h : OpenQ B A lb WS g t sb p 4 W) (hfg : ∀ b, foot sb g b → b < A) (hlb : A + 3 ≤ lb) (hWS : WS.heap.size = lb + 2) (hp : p.length ≤ 16) (ha : t.acts + 200 < 4611686018427387904) :
    Calls Tryz.prog 33 #[ptr A] W (Errs fun r W' => (r = 0 ∧ ∃ gi ti n c s recs sv rv, OpenAt p t 5 ti n s recs ∧ OSt B A lb WS W' g gi sb ⟨sb, p, n, c, false⟩ ti ∧ Boxed W' A 24 (ptr lb) ∧ Boxed W' (A + 1) 22 sv ∧ Boxed W' (A + 2) 25 rv ∧ SnapAt (lb + 2) sb gi W' sv s ∧ RecsAt (lb + 2) sb gi W' rv recs ∧ n < 100 ∧ c = recs.length) ∨ (r ≠ 0 ∧ OpenX B A lb WS g t sb p r W')) := by
  obtain ⟨gi, ti, n, c, s, recs, sv, rv, h⟩ := h
  refine open5 W A lb _ h.bl.cell ?_
  obtain ⟨r, t1, hr⟩ : ∃ r t1, dropF n (ownT p ti) ti = (r, t1) := ⟨_, _, rfl⟩
  have hac := h.acts
  have hrun := h.run
  have hsm := h.small
  refine (dropOthers_any W h.st.bo h.good hp (by omega) hr).mono ?_
  rintro e W' ⟨rfl, g', hs⟩
  obtain ⟨b1, b2, b3, b4, b5, b6⟩ := h.boxes hfg hlb hWS hs
  have st := h.st.trans hs (by omega) (by omega)
  refine ⟨r, rfl, ?_⟩
  by_cases h0 : r = 0
  · subst h0
    exact .inl ⟨rfl, g', t1, n, c, s, recs, sv, rv, .s5 hrun hr, st, b1, b2, b3, b5, b6, hsm, h.cnt (by omega)⟩
  · exact .inr ⟨h0, g', t1, _, sv, rv, .f5 hrun hr h0, st, b1, b2, b3⟩
theorem step2 {W : World} (h : OpenQ B A lb WS g t sb p 1 W) (hfg : ∀ b, foot sb g b → b < A) (hlb : A + 3 ≤ lb) (hWS : WS.heap.size = lb + 2) (hp : p.length ≤ 16) :
    Calls Tryz.prog 27 #[ptr A, ptr (A + 1)] W (Errs fun r W' => (r = 0 ∧ OpenQ B A lb WS g t sb p 2 W') ∨ (r ≠ 0 ∧ OpenX B A lb WS g t sb p r W')) := by
  obtain ⟨gi, ti, n, c, s, recs, sv, rv, h⟩ := h
  obtain ⟨r, n', s', hr⟩ : ∃ r n' s', newF ti (ownT p ti) 0 [] = (r, n', s') := ⟨_, _, _, rfl⟩
  have hac := h.acts
  have hrun := h.run
  have hsm := h.small
  have hn0 := h.num (by omega)
  subst hn0
  have hzW := h.st.kept.size
  refine (open2 W A (A + 1) lb (fun v r W' => (r = 0 ∧ OpenQ B A lb WS g t sb p 2 W') ∨ (r ≠ 0 ∧ OpenX B A lb WS g t sb p r W')) h.bl.cell ((newest_any W h.st.bo h.good hp hsm hr).mono ?_)).mono (fun e w' ⟨r, h1, v, h2⟩ => ⟨r, h1, h2⟩)
  rintro e W' ⟨v, rfl, hs, hno⟩
  obtain ⟨b1, b2, b3, b4, b5, b6⟩ := h.boxes hfg hlb hWS hs
  have st := h.st.trans hs (by omega) (by omega)
  have ho := h.out hfg hWS
  have hvs : ∃ a m c, v = .slice a m c := by
    by_cases h0 : r = 0
    · obtain ⟨a, c, e⟩ := (hno.good h0).slice; exact ⟨a, _, c, e⟩
    · exact ⟨none, 0, 0, hno.bad h0⟩
  obtain ⟨a, m, cc, rfl⟩ := hvs
  refine ⟨a, m, cc, r, sv, rfl, b2.cell, b2.frozen, ?_⟩
  have st2 := st.box (A + 1) (.slice a m cc) (by omega) (ho (A + 1) (by omega) (by omega)) (by omega)
  have kp : Kept (fun b => b = A + 1) W' (W'.setCell ⟨A + 1, 0, none⟩ (.slice a m cc)) := kept_set _ _ _ _ rfl
  have q1 : Boxed (W'.setCell ⟨A + 1, 0, none⟩ (.slice a m cc)) A 24 (ptr lb) := (kp.block _ b1.lt (by omega)).trans b1
  have q3 : Boxed (W'.setCell ⟨A + 1, 0, none⟩ (.slice a m cc)) (A + 2) 25 rv := (kp.block _ b3.lt (by omega)).trans b3
  have q6 := b6.move (g' := gi) kp (fun b hb => .inr (by omega)) (fun b hb => .inl hb)
  have q2 := b2.set (.slice a m cc)
  by_cases h0 : r = 0
  · subst h0
    refine .inl ⟨rfl, gi, ti, n', c, s', recs, .slice a m cc, rv, ?_, st2, q1, q2, q3, (kp.block _ (lt_of_block b4) (by omega)).trans b4, ?_, q6, h.good, by omega, hno.small, fun h => by omega, fun h => by omega⟩
    · cases hrun with
      | s1 hd => exact .s2 (.s1 hd) hr
    · have hw := hno.good rfl
      have hfW : ∀ b, foot sb gi b → b < W.heap.size := fun b hb => h.st.bo.is.1.lt hb
      exact ⟨W.heap.size, W', by omega, (Safe.here (W := W') hfW).move (g' := gi) kp (fun b hb => .inr (.inl (by omega))) (fun b hb => .inl hb), hw⟩
  · refine .inr ⟨h0, gi, ti, _, .slice a m cc, rv, ?_, st2, q1, q2, q3⟩
    cases hrun with
    | s1 hd => exact .f2 (.s1 hd) hr h0
theorem step4 {W : World} (h : OpenQ B A lb WS g t sb p 3 W) (hfg : ∀ b, foot sb g b → b < A) (hlb : A + 3 ≤ lb) (hWS : WS.heap.size = lb + 2) (hp : p.length ≤ 16) (ha : t.acts + 200 < 4611686018427387904) :
    Calls Tryz.prog 31 #[ptr A, ptr (A + 2)] W (Errs fun r W' => (r = 0 ∧ OpenQ B A lb WS g t sb p 4 W') ∨ (r ≠ 0 ∧ OpenX B A lb WS g t sb p r W')) := by
  obtain ⟨gi, ti, n, c, s, recs, sv, rv, h⟩ := h
  obtain ⟨recs', hR⟩ := read8_any (ti.read (nameOf p (pLog n))).1
  obtain ⟨r, t', hr⟩ : ∃ r t', loadA (nameOf p (pLog n)) ti recs' = (r, t') := ⟨_, _, rfl⟩
  have hac := h.acts
  have hrun := h.run
  have hsm := h.small
  have hzW := h.st.kept.size
  refine (open4 W A (A + 2) lb (fun v r W' => (r = 0 ∧ OpenQ B A lb WS g t sb p 4 W') ∨ (r ≠ 0 ∧ OpenX B A lb WS g t sb p r W')) h.bl.cell ((load_any W h.st.bo hp hsm (by omega) hR hr).mono ?_)).mono (fun e w' ⟨r, h1, v, h2⟩ => ⟨r, h1, h2⟩)
  rintro e W' ⟨v, g', c', rfl, hs, hno⟩
  obtain ⟨b1, b2, b3, b4, b5, b6⟩ := h.boxes hfg hlb hWS hs
  obtain ⟨hg', hac'⟩ := load_good h.good hr
  have st := h.st.trans hs (by omega) (by omega)
  have ho : ∀ b, A ≤ b → b < lb + 2 → ¬ foot sb g' b := fun b h1 h2 hb => by
    rcases st.fresh b hb with h3 | h3
    · have := hfg b h3; omega
    · omega
  have hvs : ∃ a m c, v = .slice a m c := by
    by_cases h0 : r = 0
    · obtain ⟨_, R, _, hrec, _⟩ := hno.good h0
      obtain ⟨a, c, e⟩ := hrec.slice; exact ⟨a, _, c, e⟩
    · exact ⟨none, 0, 0, (hno.bad h0).2⟩
  obtain ⟨a, m, cc, rfl⟩ := hvs
  refine ⟨a, m, cc, r, rv, rfl, b3.cell, b3.frozen, ?_⟩
  have st2 := st.box (A + 2) (.slice a m cc) (by omega) (ho (A + 2) (by omega) (by omega)) (by omega)
  have kp : Kept (fun b => b = A + 2) W' (W'.setCell ⟨A + 2, 0, none⟩ (.slice a m cc)) := kept_set _ _ _ _ rfl
  have q1 : Boxed (W'.setCell ⟨A + 2, 0, none⟩ (.slice a m cc)) A 24 (ptr lb) := (kp.block _ b1.lt (by omega)).trans b1
  have q2 : Boxed (W'.setCell ⟨A + 2, 0, none⟩ (.slice a m cc)) (A + 1) 22 sv := (kp.block _ b2.lt (by omega)).trans b2
  have q5 := b5.move (g' := g') kp (fun b hb => .inr (by omega)) (fun b hb => .inl hb)
  have q3 := b3.set (.slice a m cc)
  obtain rfl : recs = [] := by cases hrun; rfl
  by_cases h0 : r = 0
  · subst h0
    obtain ⟨hc, R, hR1, hrec, hfR⟩ := hno.good rfl
    refine .inl ⟨rfl, g', t', n, c', s, recs', sv, .slice a m cc, .s4 hrun hR hr, st2, q1, q2, q3, (kp.block _ (lt_of_block b4) (by omega)).trans b4, q5, ?_, hg', by omega, hsm, fun _ => hc, fun h => by omega⟩
    exact ⟨R, W', by omega, (Safe.here (W := W') hfR).move (g' := g') kp (fun b hb => .inr (.inl (by omega))) (fun b hb => .inl hb), hrec⟩
  · exact .inr ⟨h0, g', t', _, sv, .slice a m cc, .f4 hrun hR hr h0, st2, q1, q2, q3⟩
end
end Go.Proofs.YtihgikekkgoddaaGreatDoor
