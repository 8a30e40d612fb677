/- A store and a log over it; contracts of dropNew, makeFile. -/
import Derived.Test.YtihgikekkgoddaaGreatDoorZL3
namespace Go.Proofs.YtihgikekkgoddaaGreatDoor
open Go.RowKit Go.Shelf Sto
attribute [local go_sem] Oper.semAt_some

theorem not_foot {B sb lb : Nat} {w : World} {g : Gs} {x : Lg} (h : StoreAt B w sb g) (hl : LogAt w lb x) : ¬ foot sb g lb := by
  have hl' : w.heap[lb]? = some (.cells #[ptr x.sb, str x.p, .int .i64 (x.n : Int), .int .i64 (x.c : Int), .bool x.br] 33) := hl
  rintro (e | e | ⟨f, hf, (e | e)⟩)
  · have := h.cell; rw [← e, hl'] at this; simp at this
  · obtain ⟨D, hD, _⟩ := h.map
    obtain ⟨es, c, h1⟩ := map_block hD
    rw [← e, hl'] at h1; cases h1
  · have := (h.files f hf).cell; rw [← e, hl'] at this; simp at this
  · obtain ⟨c, h1⟩ := row_block (h.files f hf) e; rw [hl'] at h1; simp at h1
/-- a store that is told to be t, and a log over it. -/
structure Bo (B : Nat) (w : World) (lb : Nat) (g : Gs) (t : St) (x : Lg) : Prop where
  is : Is B w x.sb g t
  log : LogAt w lb x
  base : B ≤ lb
theorem Bo.apart {B lb : Nat} {w : World} {g : Gs} {t : St} {x : Lg} (h : Bo B w lb g t x) : ¬ foot x.sb g lb := not_foot h.is.1 h.log
def bfoot (lb : Nat) (x : Lg) (g : Gs) (k : Nat) : Prop := foot x.sb g k ∨ k = lb
theorem Bo.lt {B lb : Nat} {w : World} {g : Gs} {t : St} {x : Lg} (h : Bo B w lb g t x) {k : Nat} (hk : bfoot lb x g k) : k < w.heap.size := hk.elim (fun h1 => h.is.1.lt h1) (fun e => e ▸ h.log.lt)
theorem Bo.keep {B lb : Nat} {w w' : World} {g : Gs} {t : St} {x : Lg} (h : Bo B w lb g t x) (hb : ∀ k, bfoot lb x g k → w'.heap[k]? = w.heap[k]?) (hs : w.heap.size ≤ w'.heap.size) : Bo B w' lb g t x :=
  ⟨⟨h.is.1.keep fun k hk => hb k (.inl hk), h.is.2.1, Nat.le_trans h.is.2.2 hs⟩, h.log.keep (hb _ (.inr rfl)), h.base⟩
theorem Bo.below {B lb : Nat} {w w' : World} {g : Gs} {t : St} {x : Lg} (h : Bo B w lb g t x) (hb : Below w.heap.size w w') : Bo B w' lb g t x := h.keep (fun k hk => hb.block k (h.lt hk)) hb.size
/-- what a call makes of both. -/
structure BStep (B lb : Nat) (w w' : World) (g g' : Gs) (x x' : Lg) (t' : St) : Prop where
  bo : Bo B w' lb g' t' x'
  kept : Kept (bfoot lb x g) w w'
  fresh : ∀ k, foot x'.sb g' k → foot x.sb g k ∨ w.heap.size ≤ k
  sb : x'.sb = x.sb
theorem BStep.trans {B lb : Nat} {w w1 w2 : World} {g g1 g2 : Gs} {x x1 x2 : Lg} {t1 t2 : St} (a : BStep B lb w w1 g g1 x x1 t1) (b : BStep B lb w1 w2 g1 g2 x1 x2 t2) : BStep B lb w w2 g g2 x x2 t2 :=
  ⟨b.bo, a.kept.trans b.kept (fun k hk => hk.elim (fun h => (a.fresh k h).elim (fun h => .inl (.inl h)) .inr) (fun e => .inl (.inr e))), fun k hk => (b.fresh k hk).elim (a.fresh k) (fun h => .inr (Nat.le_trans a.kept.size h)), b.sb.trans a.sb⟩
theorem Bo.same {B lb : Nat} {w w' : World} {g : Gs} {t : St} {x : Lg} (h : Bo B w lb g t x) (hb : Below w.heap.size w w') : BStep B lb w w' g g x x t := ⟨h.below hb, kept_of_below hb, fun _ hk => .inl hk, rfl⟩
theorem Bo.step {B lb : Nat} {w w' : World} {g g' : Gs} {t t' : St} {x : Lg} (h : Bo B w lb g t x) (hs : Step B x.sb w w' g g') (hi : Is B w' x.sb g' t') : BStep B lb w w' g g' x x t' :=
  ⟨⟨hi, h.log.keep (hs.kept.block _ h.log.lt h.apart), h.base⟩, hs.kept.mono (fun _ _ hk => .inl hk), hs.fresh, rfl⟩
theorem BStep.low {B lb : Nat} {w w' : World} {g g' : Gs} {x x' : Lg} {t t' : St} (h : Bo B w lb g t x) (hs : BStep B lb w w' g g' x x' t') : Below B w w' :=
  hs.kept.below h.is.2.2 fun k hk => hk.elim (fun h1 => h.is.1.base k h1) (fun e => e ▸ h.base)

def partCells : Value → Array Value | .agg cs => cs | _ => #[]
/-- the world behind a round's assignment: a cell of its own for the part. -/
def wPart (args : Array Value) (W : World) : World := W.alloc (.cells (partCells (args.getD 1 undef)) 88)
theorem wPart_low (args : Array Value) (W : World) : Below W.heap.size W (wPart args W) := alloc_low _ _
/-- the part's cell in a round. -/
theorem part_box {W0 W : World} {nm : List UInt8} {q : Part} {r : Nat} (hr : r < W0.heap.size) (h : Frm.Kept (fun b => b = r) (wPart #[str nm, partV q] W0) W) : W.cell? ⟨W0.heap.size, 0, none⟩ = some (str q.kind) ∧ W.cell? ⟨W0.heap.size, 1, none⟩ = some (.int .i64 (q.num : Int)) := by
  have e : W.heap[W0.heap.size]? = some (.cells #[str q.kind, .int .i64 (q.num : Int)] 88) := (h.block _ (by unfold wPart; simp) (by omega)).trans (MapKept.heap_alloc W0 _).1
  exact ⟨by rw [cell_of e]; rfl, by rw [cell_of e]; rfl⟩
theorem low2 {B : Nat} {w w1 w2 : World} {F : Nat → Prop} (L : Below B w w1) (hB : B ≤ w1.heap.size) (hk : Frm.Kept F w1 w2) (hF : ∀ b, F b → B ≤ b) : Below B w w2 :=
  ⟨hk.os.trans L.os, hk.tape.trans L.tape, hk.output.trans L.output, Nat.le_trans L.size hk.size, fun b hb => (hk.block b (by omega) (fun h => by have := hF b h; omega)).trans (L.block b hb)⟩
theorem bo_kept {B lb : Nat} {A C : World} {F : Nat → Prop} {g : Gs} {t : St} {x : Lg} (h : Bo B A lb g t x) (hk : Frm.Kept F A C) (hF : ∀ b, bfoot lb x g b → ¬ F b) : Bo B C lb g t x :=
  h.keep (fun b hb => hk.block b (h.lt hb) (hF b hb)) hk.size
theorem kept_two {F G : Nat → Prop} {w A C : World} (h : Kept F w A) (hk : Frm.Kept G A C) (hG : ∀ b, G b → F b ∨ w.heap.size ≤ b) : Kept F w C :=
  ⟨hk.os.trans h.os, hk.tape.trans h.tape, hk.output.trans h.output, Nat.le_trans h.size hk.size, fun b hb hn => (hk.block b (Nat.lt_of_lt_of_le hb h.size) (fun hg => (hG b hg).elim hn (by omega))).trans (h.block b hb hn)⟩
theorem put_cell {W : World} {r b : Nat} {o : Obj} {v : Value} (h : W.cell? ⟨b, 0, none⟩ = some v) (hne : b ≠ r) : (W.putObj r o).cell? ⟨b, 0, none⟩ = some v :=
  (World.cell?_of_block (a := ⟨b, 0, none⟩) (World.putObj_heap_other hne)).trans h
open Classical in
noncomputable def dropNewA (p : List UInt8) (t : St) : Int × St := if nameOf p pNew ∈ namesOf t then t.remove (nameOf p pNew) else (0, t)
theorem new_kind {q : Part} (h : q.ok) (hk : q.kind = kNew) : q = pNew := by
  rcases ok_cases h with rfl | ⟨n, _, rfl⟩ | ⟨n, _, _, rfl⟩
  · rfl
  · exact absurd hk log_ne_new
  · exact absurd hk snap_ne_new
set_option maxRecDepth 100000 in
set_option maxHeartbeats 4000000 in
theorem dropNew_any (w : World) {B lb : Nat} {g : Gs} {t : St} {x : Lg} (h : Bo B w lb g t x) (hgood : Good x.p (namesOf t)) (hp : x.p.length ≤ 16) (ha : t.acts < 4611686018427387904) {r : Int} {t' : St} (ht : dropNewA x.p t = (r, t')) :
    Calls Tryz.prog 26 #[ptr lb] w fun e w' => e = .returned (.int .i64 r) ∧ ∃ g', BStep B lb w w' g g' x x t' := by
  have hyes : Hid (nameOf x.p pNew ∈ namesOf t → t.remove (nameOf x.p pNew) = (r, t')) := fun hin => by unfold dropNewA at ht; rwa [if_pos hin] at ht
  have hno : Hid (nameOf x.p pNew ∉ namesOf t → r = 0 ∧ t' = t) := fun hin => by unfold dropNewA at ht; rw [if_neg hin] at ht; cases ht; exact ⟨rfl, rfl⟩
  clear ht
  refine (callsIn_wide (n := 9)).1 ?_
  refine callsIn_of_wp_marks Tryz.func26 rfl trivial ?_ rfl
  simp only [Tryz.ntmps26, List.size_toArray, List.length_cons, List.length_nil, Nat.reduceAdd, Nat.reduceSub, Array.replicate_succ, Array.replicate_zero, List.push_toArray, List.append_toArray, List.nil_append, List.cons_append]
  have ho := hid (fun W => own_any W lb)
  have H := hid h
  clear h
  unfold ptr at ho ⊢
  gi_wp2_with fail
  refine ⟨trivial, (callsIn_wide.2 (ho.out _)).mono ?_⟩
  rintro e w1 ⟨rfl, hw1⟩
  gi_wp2_with fail
  obtain ⟨W0, hW0⟩ : ∃ W0, ((w.alloc (.cells #[Value.pointer (some ⟨lb, 0, none⟩)] 24)).alloc (.cells #[Value.int .i64 0] 26)).alloc (.cells #[Value.pointer (some ⟨lb, 0, none⟩)] 24) = W0 := ⟨_, rfl⟩
  subst hw1
  rw [hW0]
  have hs0 : W0.heap.size = w.heap.size + 3 := by rw [← hW0]; simp
  have hb0 : Below w.heap.size w W0 := by rw [← hW0]; exact (((Below.refl _ w).alloc (Nat.le_refl _) _).alloc (by simp) _).alloc (by simp; omega) _
  have hxl : Boxed W0 w.heap.size 24 (.pointer (some ⟨lb, 0, none⟩)) := by rw [← hW0]; exact ((Boxed.new w _ _).alloc _).alloc _
  have hxr : Boxed W0 (w.heap.size + 1) 26 (.int .i64 0) := by
    rw [← hW0]
    have := (Boxed.new (w.alloc (.cells #[Value.pointer (some ⟨lb, 0, none⟩)] 24)) 26 (.int .i64 0)).alloc (.cells #[Value.pointer (some ⟨lb, 0, none⟩)] 24)
    rwa [World.size_alloc] at this
  have hx1 : W0.cell? ⟨w.heap.size + 2, 0, none⟩ = some (ptr lb) := by
    rw [← hW0]
    have := (Boxed.new ((w.alloc (.cells #[Value.pointer (some ⟨lb, 0, none⟩)] 24)).alloc (.cells #[Value.int .i64 0] 26)) 24 (.pointer (some ⟨lb, 0, none⟩))).cell
    rwa [World.size_alloc, World.size_alloc] at this
  clear hW0
  have H0 := hid (H.out.below hb0)
  have hlt := H.out.log.lt
  refine range2 (gf := 80) (lb := #[.pointer (some ⟨w.heap.size + 2, 0, none⟩)]) rfl (enters_of Tryz.func80 (by kernel_rfl) rfl)
    (own_gives W0 (bx := w.heap.size + 2) H0.out.is H0.out.log rfl hx1 hgood)
    (fun k args hy => by obtain ⟨_, _, _, rfl⟩ := hy; rfl)
    (fun hi k W => Below W0.heap.size W0 W ∧ ∀ j nm q, j < k → (ownT x.p t)[j]? = some (nm, q) → q.kind ≠ kNew)
    (fun c hi k W => c = .ret ∧ nameOf x.p pNew ∈ namesOf t ∧ ∃ g', Boxed W (w.heap.size + 1) 26 (.int .i64 r) ∧ Bo B W lb g' t' x ∧ Kept (bfoot lb x g) w W ∧ W0.heap.size + 2 ≤ hi ∧ ∀ b, foot x.sb g' b → foot x.sb g b ∨ hi ≤ b)
    (fun hi k A C hi0 hk => ⟨low2 hi0.1 hi0.1.size hk (fun b hb => by omega), hi0.2⟩)
    (fun c hi k A C hi0 hk => by
      obtain ⟨h1, h2, g', h3, h4, h5, h6, h7⟩ := hi0
      refine ⟨h1, h2, g', (hk.block _ h3.lt (by omega)).trans h3, bo_kept h4 hk (fun b hb hh => ?_), kept_two h5 hk (fun b hb => .inr (by omega)), h6, h7⟩
      rcases hb with hb | hb
      · rcases h7 b hb with h8 | h8
        · have := H.out.is.1.lt h8; omega
        · omega
      · omega)
    (fun hi k A hi0 => ⟨(hi0.1.cell (p := ⟨w.heap.size + 2, 0, none⟩) (by show w.heap.size + 2 < W0.heap.size; omega)).trans hx1, ((H0.out.log.below hi0.1).cells).2.1⟩)
    (fun hi _ => ⟨Below.refl _ _, fun j nm q hj => by omega⟩)
    (fun args W => { tmps := #[.pointer (some ⟨lb, 0, none⟩), .pointer (some ⟨w.heap.size, 0, none⟩), .pointer (some ⟨w.heap.size + 1, 0, none⟩), args.getD 0 undef, .pointer (some ⟨W.heap.size, 0, none⟩), .pointer (some ⟨lb, 0, none⟩), .func (.func 80) #[] #[.pointer (some ⟨w.heap.size + 2, 0, none⟩)], args.getD 0 undef, args.getD 1 undef, undef, undef, undef, undef, undef, undef, undef, undef, undef], defers := [] })
    wPart wPart_low ?assign ?body ?done ?stop
  case assign =>
    rintro i l1 k args W K ⟨nm, q, _, rfl⟩ hK
    unfold wPart partCells partV str at hK
    unfold partV str
    gi_wp2
    exact hK
  case body =>
    rintro i l1 hi k args V W hk hh1 hh2 ⟨hB, hnn⟩ ⟨nm, q, hq, rfl⟩ hkp
    obtain ⟨p0, p1⟩ := part_box (by omega) hkp
    have hm : (nm, q) ∈ ownT x.p t := List.mem_of_getElem? hq
    obtain ⟨hm1, hm2, hm3⟩ := mem_own.1 hm
    have hsW := hB.size
    have hkz : V.heap.size < W.heap.size := by have := hkp.size; unfold wPart at this; simp at this; omega
    have hxlW : Boxed W w.heap.size 24 (.pointer (some ⟨lb, 0, none⟩)) := (hB.block _ (by omega)).trans hxl
    have hxrW : Boxed W (w.heap.size + 1) 26 (.int .i64 0) := (hB.block _ (by omega)).trans hxr
    have HW := hid (H0.out.below hB)
    have cl := hxlW.cell
    have cs := (HW.out.log.cells).1
    by_cases hkn : q.kind = kNew
    · obtain rfl := new_kind hm2 hkn
      simp only at hm1 hm3
      subst hm3
      have hlen := nameOf_len ok_new hp
      have hrm := hid (remove_t W HW.out.is (nameOf x.p pNew) (by unfold maxLen; omega) ha (hyes.out hm1))
      replace p0 : W.cell? ⟨V.heap.size, 0, none⟩ = some (.string ⟨#[110, 101, 119]⟩) := p0
      have HX := hid hxrW
      have HB := hid hB
      have HM := hid hm1
      clear hq hm hnn hkp p1 hkn hm2 hxrW hxlW hB hm1 hlen hx1 hxr hxl
      unfold str ptr partV at *
      generalize nameOf x.p pNew = nm at *
      gi_wp2_with fail
      refine ⟨trivial, (fun h => by cases h), (CallsIn.inRound l1 (callsIn_wide.2 hrm.out)).mono ?_⟩
      rintro e W3 ⟨rfl, g', hst, his⟩
      have hst3 := HW.out.step hst his
      have hx3 : Boxed W3 (w.heap.size + 1) 26 (.int .i64 0) := (hst.kept.block _ HX.out.lt (fun hf => by have := H.out.is.1.lt hf; omega)).trans HX.out
      have c3 := hx3.cell
      have f3 := hx3.frozen
      replace hst3 := hid hst3
      have hx3' := hid hx3
      have hst' := hid hst
      clear hst his hrm hx3
      gi_wp2
      have hxs := hx3'.out.set (.int .i64 r)
      refine ⟨⟨Nat.le_trans hst3.out.kept.size (by simp [World.setCell]), fun b h1 h2 => ?_⟩, rfl, HM.out, g', hxs, ?_, ?_, hh1, ?_⟩
      · rw [heap_set _ _ _ _ _ (by omega)]
        exact hst'.out.kept.block b (by omega) (fun hf => by have := H.out.is.1.lt hf; omega)
      · refine hst3.out.bo.keep (fun b hb => heap_set _ _ _ _ _ (fun e => ?_)) (by simp [World.setCell])
        rcases hb with hb | hb
        · rcases hst'.out.fresh b hb with h8 | h8
          · have := H.out.is.1.lt h8; omega
          · omega
        · omega
      · refine ((kept_of_below (F := bfoot lb x g) (hb0.trans (HB.out.mono (by omega)))).trans hst3.out.kept (fun b hb => .inl hb)).trans (kept_set (F := fun b => b = w.heap.size + 1) _ _ _ _ rfl) (fun b hb => .inr (by omega))
      · exact fun b hb => (hst'.out.fresh b hb).imp id (fun h8 => by omega)
    · have hk0 : (q.kind == [110, 101, 119]) = false := by simpa [kNew] using hkn
      have hnx : Hid (∀ j nm' q', j < k + 1 → (ownT x.p t)[j]? = some (nm', q') → q'.kind ≠ kNew) := fun j nm' q' hj hj2 => by
        by_cases e : j = k
        · subst e; rw [hq] at hj2; cases hj2; exact hkn
        · exact hnn j nm' q' (by omega) hj2
      have HB := hid hB
      clear hq hm hnn hkp p1 hkn hm2 hxrW hxlW hB hm1 hm3 hx1 hxr hxl
      unfold str ptr partV at *
      gi_wp2
      exact ⟨Lies.refl _ _ _, HB.out, hnx.out⟩
  case done =>
    rintro hi W hh1 hh2 ⟨hB, hnn⟩ hdf
    have hxrW : Boxed W (w.heap.size + 1) 26 (.int .i64 0) := (hB.block _ (by omega)).trans hxr
    have hnot : nameOf x.p pNew ∉ namesOf t := fun hin => by
      have : (nameOf x.p pNew, pNew) ∈ ownT x.p t := mem_own.2 ⟨hin, ok_new, rfl⟩
      obtain ⟨j, hj, e⟩ := List.getElem_of_mem this
      exact hnn j _ pNew hj (by rw [List.getElem?_eq_getElem hj, e]) rfl
    have hc := hxrW.cell
    have hfz := hxrW.frozen
    obtain ⟨rfl, rfl⟩ := hno.out hnot
    have HB := hid hB
    have hdf' : (W.setCell ⟨w.heap.size + 1, 0, none⟩ (.int .i64 0)).heap[w.heap.size + 3]? = some (.deferred (some [])) := by rw [heap_set _ _ _ _ _ (by omega), ← hs0]; exact hdf
    clear hB
    gi_wp2
    refine ⟨by simp, .inl ⟨_, _, rfl, run_takeDeferred hdf', ?_⟩⟩
    have hbW : Below w.heap.size w ((W.setCell ⟨w.heap.size + 1, 0, none⟩ (.int .i64 0)).putObj (w.heap.size + 3) (.deferred none)) :=
      ((hb0.trans (HB.out.mono (by omega))).setCell (p := ⟨w.heap.size + 1, 0, none⟩) (by show w.heap.size ≤ w.heap.size + 1; omega) _).trans (Frm.below_put _ _ _ (by omega))
    have hcc : ((W.setCell ⟨w.heap.size + 1, 0, none⟩ (.int .i64 0)).putObj (w.heap.size + 3) (.deferred none)).cell? ⟨w.heap.size + 1, 0, none⟩ = some (.int .i64 0) := by
      have hx := hxrW.set (.int .i64 0)
      exact put_cell hx.cell (by omega)
    refine ⟨.int .i64 0, ?_, rfl, g, H.out.same hbW⟩
    simp [results, Tryz.f26, go_sem, hcc]
  case stop =>
    rintro hi c k W hh1 hh2 hk ⟨rfl, hin, g', hbx, hbo, hkp, _, hfr⟩ hdf
    have hc := hbx.cell
    gi_wp2
    refine ⟨by simp, .inl ⟨_, _, rfl, run_takeDeferred hdf, ?_⟩⟩
    have hcc : (W.putObj W0.heap.size (.deferred none)).cell? ⟨w.heap.size + 1, 0, none⟩ = some (.int .i64 r) :=
      put_cell hbx.cell (by omega)
    have kp : Frm.Kept (fun b => b = W0.heap.size) W (W.putObj W0.heap.size (.deferred none)) := Frm.kept_put _ _ _ rfl
    refine ⟨.int .i64 r, ?_, rfl, g', ⟨bo_kept hbo kp (fun b hb hh => ?_), kept_two hkp kp (fun b hb => .inr (by omega)), fun b hb => (hfr b hb).imp id (fun h8 => by omega), rfl⟩⟩
    · simp [results, Tryz.f26, go_sem, hcc]
    · rcases hb with hb | hb
      · rcases hfr b hb with h8 | h8
        · have := H.out.is.1.lt h8; omega
        · omega
      · omega
end Go.Proofs.YtihgikekkgoddaaGreatDoor
