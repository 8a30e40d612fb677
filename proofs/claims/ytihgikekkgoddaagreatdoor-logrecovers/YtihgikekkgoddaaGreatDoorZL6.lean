/- Contract of dropOthers. -/
import Derived.Test.YtihgikekkgoddaaGreatDoorZL5
namespace Go.Proofs.YtihgikekkgoddaaGreatDoor
open Go.RowKit Go.Shelf Sto
attribute [local go_sem] Oper.semAt_some

/-- all of these files but those of the number are removed; the first that can't be ends it. -/
def dropF (n : Nat) : List (List UInt8 × Part) → St → Int × St
  | [], t => (0, t)
  | (nm, q) :: r, t => if q.kind ≠ kNew ∧ q.num = n then dropF n r t else if (t.remove nm).1 = 0 then dropF n r (t.remove nm).2 else t.remove nm
theorem remove_acts (t : St) (n : List UInt8) : (t.remove n).2.acts ≤ t.acts + 1 := by
  unfold St.remove St.with
  split
  · simp
  · split
    · simp
    · simp [St.done]
theorem drop_cons {α : Type} {l : List α} {k : Nat} {x : α} (h : l[k]? = some x) : l.drop k = x :: l.drop (k + 1) := by
  obtain ⟨h1, h2⟩ := List.getElem?_eq_some_iff.1 h
  rw [List.drop_eq_getElem_cons h1, h2]
/-- what holds ahead of each round. -/
structure DropI (B lb : Nat) (w : World) (g : Gs) (t : St) (x : Lg) (r : Int) (t' : St) (hi k : Nat) (W : World) (gk : Gs) (tk : St) : Prop where
  bo : Bo B W lb gk tk x
  rest : dropF x.n ((ownT x.p t).drop k) tk = (r, t')
  kept : Kept (bfoot lb x g) w W
  fresh : ∀ b, foot x.sb gk b → foot x.sb g b ∨ (hi ≤ b ∧ w.heap.size + 5 ≤ b)
  l : Boxed W w.heap.size 24 (.pointer (some ⟨lb, 0, none⟩))
  rb : Boxed W (w.heap.size + 1) 26 (.int .i64 0)
  ob : W.cell? ⟨w.heap.size + 2, 0, none⟩ = some (ptr lb)
  acts : tk.acts ≤ t.acts + k
theorem DropI.keep {B lb : Nat} {w : World} {g : Gs} {t : St} {x : Lg} {r : Int} {t' : St} {hi k : Nat} {A C : World} {gk : Gs} {tk : St} {F : Nat → Prop} (h : DropI B lb w g t x r t' hi k A gk tk) (H : Bo B w lb g t x) (hk : Frm.Kept F A C) (hF : ∀ b, F b → w.heap.size + 3 ≤ b ∧ b < w.heap.size + 5) : DropI B lb w g t x r t' hi k C gk tk := by
  have hlt := H.log.lt
  have nF : ∀ b, b < w.heap.size + 3 → ¬ F b := fun b h1 h2 => by have := hF b h2; omega
  refine ⟨bo_kept h.bo hk (fun b hb hh => ?_), h.rest, kept_two h.kept hk (fun b hb => .inr (by have := hF b hb; omega)), h.fresh, (hk.block _ h.l.lt (nF _ (by omega))).trans h.l, (hk.block _ h.rb.lt (nF _ (by omega))).trans h.rb, (World.cell?_of_block (a := ⟨w.heap.size + 2, 0, none⟩) (hk.block _ (World.block_lt_of_cell? A ⟨w.heap.size + 2, 0, none⟩ h.ob) (nF _ (by show w.heap.size + 2 < _; omega)))).trans h.ob, h.acts⟩
  have := hF b hh
  rcases hb with hb | hb
  · rcases h.fresh b hb with h8 | h8
    · have := H.is.1.lt h8; omega
    · omega
  · omega
set_option maxRecDepth 100000 in
set_option maxHeartbeats 4000000 in
theorem dropOthers_any (w : World) {B lb : Nat} {g : Gs} {t : St} {x : Lg} (h : Bo B w lb g t x) (hgood : Good x.p (namesOf t)) (hp : x.p.length ≤ 16) (ha : t.acts + 100 < 4611686018427387904) {r : Int} {t' : St} (ht : dropF x.n (ownT x.p t) t = (r, t')) :
    Calls Tryz.prog 34 #[ptr lb] w fun e w' => e = .returned (.int .i64 r) ∧ ∃ g', BStep B lb w w' g g' x x t' := by
  have ht' := hid ht
  clear ht
  have hfew : (ownT x.p t).length ≤ 64 := by
    have h1 := own_len x.p (namesOf t)
    have h2 := h.is.1.few
    have h3 : t.l.length = g.l.length := by rw [← h.is.2.1]; simp [Gs.abs]
    rw [names_len, h3] at h1
    unfold ownT
    omega
  refine (callsIn_wide (n := 9)).1 ?_
  refine callsIn_of_wp_marks Tryz.func34 rfl trivial ?_ rfl
  simp only [Tryz.ntmps34, List.size_toArray, List.length_cons, List.length_nil, Nat.reduceAdd, Nat.reduceSub, Array.replicate_succ, Array.replicate_zero, List.push_toArray, List.append_toArray, List.nil_append, List.cons_append]
  have ho := hid (fun W => own_any W lb)
  have H := hid h
  clear h
  unfold ptr at ho ⊢
  gi_wp2_with fail
  refine ⟨trivial, (callsIn_wide.2 (ho.out _)).mono ?_⟩
  rintro e w1 ⟨rfl, rfl⟩
  gi_wp2_with fail
  obtain ⟨hs0, hb0, hxl, hxr, hx1⟩ := pre_of w lb
  generalize ((w.alloc (.cells #[Value.pointer (some ⟨lb, 0, none⟩)] 24)).alloc (.cells #[Value.int .i64 0] 26)).alloc (.cells #[Value.pointer (some ⟨lb, 0, none⟩)] 24) = W0 at *
  have H0 := hid (H.out.below hb0)
  have hlt := H.out.log.lt
  refine range2 (gf := 80) (lb := #[.pointer (some ⟨w.heap.size + 2, 0, none⟩)]) rfl (enters_of Tryz.func80 (by kernel_rfl) rfl)
    (own_gives W0 (bx := w.heap.size + 2) H0.out.is H0.out.log rfl hx1 hgood)
    (fun k args hy => by obtain ⟨_, _, _, rfl⟩ := hy; rfl)
    (fun hi k W => ∃ gk tk, DropI B lb w g t x r t' hi k W gk tk)
    (fun c hi k W => c = .ret ∧ ∃ g', Boxed W (w.heap.size + 1) 26 (.int .i64 r) ∧ Bo B W lb g' t' x ∧ Kept (bfoot lb x g) w W ∧ ∀ b, foot x.sb g' b → foot x.sb g b ∨ (hi ≤ b ∧ w.heap.size + 5 ≤ b))
    (fun hi k A C hi0 hk => by obtain ⟨gk, tk, h1⟩ := hi0; exact ⟨gk, tk, h1.keep H.out hk (fun b hb => by omega)⟩)
    (fun c hi k A C hi0 hk => by
      obtain ⟨h1, g', h3, h4, h5, h7⟩ := hi0
      refine ⟨h1, g', (hk.block _ h3.lt (by omega)).trans h3, bo_kept h4 hk (fun b hb hh => ?_), kept_two h5 hk (fun b hb => .inr (by omega)), h7⟩
      rcases hb with hb | hb
      · rcases h7 b hb with h8 | h8
        · have := H.out.is.1.lt h8; omega
        · omega
      · omega)
    (fun hi k A hi0 => by obtain ⟨gk, tk, h1⟩ := hi0; exact ⟨h1.ob, (h1.bo.log.cells).2.1⟩)
    (fun hi _ => ⟨g, t, H0.out, ht'.out, kept_of_below hb0, fun b hb => .inl hb, hxl, hxr, hx1, Nat.le_add_right _ _⟩)
    (fun args W => { tmps := #[.pointer (some ⟨lb, 0, none⟩), .pointer (some ⟨w.heap.size, 0, none⟩), .pointer (some ⟨w.heap.size + 1, 0, none⟩), args.getD 0 undef, .pointer (some ⟨W.heap.size, 0, none⟩), undef, .pointer (some ⟨lb, 0, none⟩), .func (.func 80) #[] #[.pointer (some ⟨w.heap.size + 2, 0, none⟩)], args.getD 0 undef, args.getD 1 undef, undef, undef, undef, undef, undef, undef, undef, undef, undef, undef, undef, undef, undef, undef, undef, undef, undef, undef, undef, undef, undef], defers := [] })
    wPart wPart_low ?assign ?body ?done ?stop
  case assign =>
    rintro i l1 k args W K ⟨nm, q, _, rfl⟩ hK
    unfold wPart partCells partV str at hK
    unfold partV str
    gi_wp2
    exact hK
  case body =>
    rintro i l1 hi k args V W hk hh1 hh2 ⟨gk, tk, hI⟩ ⟨nm, q, hq, rfl⟩ hkp
    obtain ⟨p0, p1⟩ := part_box (by omega) hkp
    have hm : (nm, q) ∈ ownT x.p t := List.mem_of_getElem? hq
    obtain ⟨hm1, hm2, hm3⟩ : nm ∈ namesOf t ∧ q.ok ∧ nm = nameOf x.p q := mem_own.1 hm
    have hkz : V.heap.size < W.heap.size := by have := hkp.size; unfold wPart at this; simp at this; omega
    have hdc := drop_cons hq
    have hrest := hI.rest
    rw [hdc] at hrest
    unfold dropF at hrest
    have cl := hI.l.cell
    have cn := (hI.bo.log.cells).2.2.1
    have cs := (hI.bo.log.cells).1
    have hmix : Tryz.prog.follows .mixedOrders = true := by kernel_rfl
    have lies2 : Hid (Lies W0.heap.size hi W W.drew) := ⟨Nat.le_refl _, fun b h1 h2 => rfl⟩
    have kdr : Frm.Kept (fun _ => False) W W.drew := ⟨rfl, rfl, rfl, Nat.le_refl _, fun _ _ _ => rfl⟩
    by_cases hA : q.kind ≠ kNew ∧ q.num = x.n
    · rw [if_pos hA] at hrest
      have hk0 : (q.kind == [110, 101, 119]) = false := by simpa [kNew] using hA.1
      have hk1 : ((q.num : Int) == (x.n : Int)) = true := by simp [hA.2]
      have fin : Hid (DropI B lb w g t x r t' hi (k + 1) W.drew gk tk) := by
        have := hI.keep H.out kdr (fun b hb => hb.elim)
        exact ⟨this.bo, hrest, this.kept, this.fresh, this.l, this.rb, this.ob, by have := this.acts; omega⟩
      clear hq hm hI hkp hm2 hm1 hm3 hxr hxl hx1 hdc hrest hA cs kdr
      (try unfold str at *); (try unfold partV at *); (try unfold str at *)
      gi_wp2_with fail
      apply wpIn_mono (Q := fun e a' w' => e = Exit.normal ∧ a' = (_ : Act) ∧ w' = W.drew)
      · gi_region_o
        all_goals exact ⟨rfl, rfl, rfl⟩
      · rintro e a' w' ⟨rfl, rfl, rfl⟩
        gi_wp2
        exact ⟨lies2.out, gk, tk, fin.out⟩
    · rw [if_neg hA] at hrest
      obtain ⟨r1, t1, hpair⟩ : ∃ r1 t1, tk.remove nm = (r1, t1) := ⟨_, _, rfl⟩
      have hact := remove_acts tk nm
      rw [hpair] at hrest hact
      simp only at hrest hact
      have hnl : nm.length ≤ maxLen := by
        have := (nameOf_len hm2 hp).2
        rw [hm3]; unfold maxLen; omega
      have hacts := hI.acts
      have hrm := hid (remove_t W.drew (hI.bo.is.below ((Below.refl _ _).drew)) nm hnl (by omega) hpair)
      have fin : Hid (∀ W3 g3, Step B x.sb W.drew W3 gk g3 → Is B W3 x.sb g3 t1 → W3.cell? ⟨w.heap.size + 1, 0, none⟩ = some (.int .i64 0) ∧ W3.frozen? ⟨w.heap.size + 1, 0, none⟩ = false ∧ Lies W0.heap.size hi W W3 ∧ Lies W0.heap.size hi W (W3.setCell ⟨w.heap.size + 1, 0, none⟩ (.int .i64 r1)) ∧ (r1 = 0 → DropI B lb w g t x r t' hi (k + 1) W3 g3 t1) ∧
          (r1 ≠ 0 → ∃ g', Boxed (W3.setCell ⟨w.heap.size + 1, 0, none⟩ (.int .i64 r1)) (w.heap.size + 1) 26 (.int .i64 r) ∧ Bo B (W3.setCell ⟨w.heap.size + 1, 0, none⟩ (.int .i64 r1)) lb g' t' x ∧ Kept (bfoot lb x g) w (W3.setCell ⟨w.heap.size + 1, 0, none⟩ (.int .i64 r1)) ∧ ∀ b, foot x.sb g' b → foot x.sb g b ∨ (hi ≤ b ∧ w.heap.size + 5 ≤ b))) := by
        intro W3 g3 hst his
        have hI' := hI.keep H.out kdr (fun b hb => hb.elim)
        have st := hI'.bo.step hst his
        have hz : W.drew.heap.size = W.heap.size := rfl
        have nf : ∀ b, w.heap.size ≤ b → b < hi → ¬ foot x.sb gk b := fun b h1 h2 hf => by
          rcases hI.fresh b hf with h8 | h8
          · have := H.out.is.1.lt h8; omega
          · omega
        have k3 : ∀ b, w.heap.size ≤ b → b < hi → W3.heap[b]? = W.heap[b]? := fun b h1 h2 => hst.kept.block b (by omega) (nf b h1 h2)
        have rb : Boxed W3 (w.heap.size + 1) 26 (.int .i64 0) := (k3 _ (by omega) (by omega)).trans hI.rb
        have fr3 : ∀ b, foot x.sb g3 b → foot x.sb g b ∨ (hi ≤ b ∧ w.heap.size + 5 ≤ b) := fun b hb => (hst.fresh b hb).elim (hI.fresh b) (fun h8 => .inr (by omega))
        have kw : Kept (bfoot lb x g) w W3 := hI'.kept.trans st.kept (fun b hb => hb.elim (fun h8 => (hI.fresh b h8).elim (fun h9 => .inl (.inl h9)) (fun h9 => .inr (by omega))) (fun e => .inl (.inr e)))
        refine ⟨rb.cell, rb.frozen, ⟨hst.kept.size, fun b h1 h2 => k3 b (by omega) h2⟩, ⟨Nat.le_trans hst.kept.size (by simp [World.setCell]), fun b h1 h2 => by rw [heap_set _ _ _ _ _ (by omega)]; exact k3 b (by omega) h2⟩, fun h0 => ?_, fun h0 => ?_⟩
        · rw [if_pos h0] at hrest
          refine ⟨st.bo, hrest, kw, fr3, (k3 _ (by omega) (by omega)).trans hI.l, rb, (World.cell?_of_block (a := ⟨w.heap.size + 2, 0, none⟩) (k3 (w.heap.size + 2) (by omega) (by omega))).trans hI.ob, by omega⟩
        · rw [if_neg h0] at hrest
          cases hrest
          refine ⟨g3, rb.set _, st.bo.keep (fun b hb => heap_set _ _ _ _ _ (fun e => ?_)) (by simp [World.setCell]), kw.trans (kept_set (F := fun b => b = w.heap.size + 1) _ _ _ _ rfl) (fun b hb => .inr (by omega)), fr3⟩
          rcases hb with hb | hb
          · rcases fr3 b hb with h8 | h8
            · have := H.out.is.1.lt h8; omega
            · omega
          · omega
      have cells3 : Hid (W.drew.cell? ⟨w.heap.size, 0, none⟩ = some (.pointer (some ⟨lb, 0, none⟩)) ∧ W.drew.cell? ⟨lb, 0, none⟩ = some (ptr x.sb)) := ⟨cl, cs⟩
      by_cases hkn : q.kind = kNew
      · replace p0 : W.cell? ⟨V.heap.size, 0, none⟩ = some (.string ⟨#[110, 101, 119]⟩) := by rw [p0, hkn]; rfl
        clear hq hm hI hkp hm2 hm1 hm3 hxr hxl hx1 hdc hrest hA kdr hkn hpair hact hacts hnl
        (try unfold str at *); (try unfold partV at *); (try unfold str at *); (try unfold ptr at *)
        gi_wp2_with fail
        apply wpIn_mono (Q := fun e a' w' => e = Exit.normal ∧ a' = (_ : Act) ∧ w' = W.drew)
        · gi_region_o
          all_goals exact ⟨rfl, rfl, rfl⟩
        · rintro e a' w' ⟨rfl, rfl, rfl⟩
          gi_wp2_with fail
          refine ⟨trivial, (fun h => by cases h), (CallsIn.inRound l1 (callsIn_wide.2 hrm.out)).mono ?_⟩
          rintro e W3 ⟨rfl, g3, hst, his⟩
          obtain ⟨c3, f3, li3, li4, go3, no3⟩ := fin.out W3 g3 hst his
          replace li3 := hid li3
          replace li4 := hid li4
          replace go3 := hid go3
          replace no3 := hid no3
          clear hst his hrm fin
          by_cases h0 : r1 = 0
          · subst h0
            gi_wp2
            exact ⟨li3.out, g3, t1, go3.out trivial⟩
          · have h0' : (r1 == 0) = false := by simpa using h0
            gi_wp2
            obtain ⟨g', q1, q2, q3, q4⟩ := no3.out h0
            exact ⟨li4.out, rfl, g', q1, q2, q3, q4⟩
      · have hk0 : (q.kind == [110, 101, 119]) = false := by simpa [kNew] using hkn
        have hk1 : ((q.num : Int) == (x.n : Int)) = false := by have : q.num ≠ x.n := fun e => hA ⟨hkn, e⟩; simp; omega
        clear hq hm hI hkp hm2 hm1 hm3 hxr hxl hx1 hdc hrest hA kdr hkn hpair hact hacts hnl
        (try unfold str at *); (try unfold partV at *); (try unfold str at *); (try unfold ptr at *)
        gi_wp2_with fail
        apply wpIn_mono (Q := fun e a' w' => e = Exit.normal ∧ a' = (_ : Act) ∧ w' = W.drew)
        · gi_region_o
          all_goals exact ⟨rfl, rfl, rfl⟩
        · rintro e a' w' ⟨rfl, rfl, rfl⟩
          gi_wp2_with fail
          refine ⟨trivial, (fun h => by cases h), (CallsIn.inRound l1 (callsIn_wide.2 hrm.out)).mono ?_⟩
          rintro e W3 ⟨rfl, g3, hst, his⟩
          obtain ⟨c3, f3, li3, li4, go3, no3⟩ := fin.out W3 g3 hst his
          replace li3 := hid li3
          replace li4 := hid li4
          replace go3 := hid go3
          replace no3 := hid no3
          clear hst his hrm fin
          by_cases h0 : r1 = 0
          · subst h0
            gi_wp2
            exact ⟨li3.out, g3, t1, go3.out trivial⟩
          · have h0' : (r1 == 0) = false := by simpa using h0
            gi_wp2
            obtain ⟨g', q1, q2, q3, q4⟩ := no3.out h0
            exact ⟨li4.out, rfl, g', q1, q2, q3, q4⟩
  case done =>
    rintro hi W hh1 hh2 ⟨gk, tk, hI⟩ hdf
    have hrest := hI.rest
    rw [List.drop_of_length_le (Nat.le_refl _)] at hrest
    unfold dropF at hrest
    cases hrest
    have hc := hI.rb.cell
    have hfz := hI.rb.frozen
    have HI := hid hI
    rw [hs0] at hdf
    have hdf' : (W.setCell ⟨w.heap.size + 1, 0, none⟩ (.int .i64 0)).heap[w.heap.size + 3]? = some (.deferred (some [])) := by rw [heap_set _ _ _ _ _ (by omega)]; exact hdf
    clear hI
    simp only [hs0]
    gi_wp2
    refine ⟨by simp, .inl ⟨_, _, rfl, run_takeDeferred hdf', ?_⟩⟩
    have kp : Frm.Kept (fun b => b = w.heap.size + 1 ∨ b = w.heap.size + 3) W ((W.setCell ⟨w.heap.size + 1, 0, none⟩ (.int .i64 0)).putObj (w.heap.size + 3) (.deferred none)) := by
      have k1 : Frm.Kept (fun b => b = w.heap.size + 1 ∨ b = w.heap.size + 3) W (W.setCell ⟨w.heap.size + 1, 0, none⟩ (.int .i64 0)) := ⟨rfl, rfl, rfl, by simp [World.setCell], fun b _ hn => heap_set _ _ _ _ _ (fun e => hn (.inl e))⟩
      exact k1.trans (Frm.kept_put (F := fun b => b = w.heap.size + 1 ∨ b = w.heap.size + 3) _ _ _ (.inr rfl)) (fun b hb => .inl hb)
    have hcc : ((W.setCell ⟨w.heap.size + 1, 0, none⟩ (.int .i64 0)).putObj (w.heap.size + 3) (.deferred none)).cell? ⟨w.heap.size + 1, 0, none⟩ = some (.int .i64 0) := put_cell (HI.out.rb.set _).cell (by omega)
    refine ⟨.int .i64 0, ?_, rfl, gk, ⟨bo_kept HI.out.bo kp (fun b hb hh => ?_), kept_two HI.out.kept kp (fun b hb => .inr (by omega)), fun b hb => (HI.out.fresh b hb).imp id (fun h8 => by omega), rfl⟩⟩
    · simp [results, Tryz.f34, go_sem, hcc]
    · rcases hb with hb | hb
      · rcases HI.out.fresh b hb with h8 | h8
        · have := H.out.is.1.lt h8; omega
        · omega
      · omega
  case stop =>
    rintro hi c k W hh1 hh2 hk ⟨rfl, g', hbx, hbo, hkp, hfr⟩ hdf
    have hc := hbx.cell
    rw [hs0] at hdf
    simp only [hs0]
    gi_wp2
    refine ⟨by simp, .inl ⟨_, _, rfl, run_takeDeferred hdf, ?_⟩⟩
    have hcc : (W.putObj (w.heap.size + 3) (.deferred none)).cell? ⟨w.heap.size + 1, 0, none⟩ = some (.int .i64 r) := put_cell hbx.cell (by omega)
    have kp : Frm.Kept (fun b => b = w.heap.size + 3) W (W.putObj (w.heap.size + 3) (.deferred none)) := Frm.kept_put _ _ _ rfl
    refine ⟨.int .i64 r, ?_, rfl, g', ⟨bo_kept hbo kp (fun b hb hh => ?_), kept_two hkp kp (fun b hb => .inr (by omega)), fun b hb => (hfr b hb).imp id (fun h8 => by omega), rfl⟩⟩
    · simp [results, Tryz.f34, go_sem, hcc]
    · rcases hb with hb | hb
      · rcases hfr b hb with h8 | h8
        · have := H.out.is.1.lt h8; omega
        · omega
      · omega
end Go.Proofs.YtihgikekkgoddaaGreatDoor
