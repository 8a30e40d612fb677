/- Contracts of slices.Collect over All, and of load. -/
import Derived.Test.YtihgikekkgoddaaGreatDoorZL7
import Derived.Test.YtihgikekkgoddaaGreatDoorZLI
namespace Go.Proofs.YtihgikekkgoddaaGreatDoor
open Go.RowKit Go.Shelf Sto
attribute [local go_sem] Oper.semAt_some

theorem sliceInfo5 : (Tryz.prog.info? 22).map (fun i => (i.zero, i.size, i.bytes)) = some (some (.slice none 0 0), 1, 24) := by kernel_rfl
/-- append of one slice to an owned row of slices. -/
theorem push_slice {base : Nat} {w : World} {v u : Value} {n : Nat} {xs : List Value} (hr : w.ownsRow base 22 1 v n xs) (hu : u.oneCell' = true) (hn : n ≤ 4000000) (hb : base ≤ w.heap.size) :
    ∃ a' c' w', (∀ ty, (Builtin.append_ #[25, 25] ty #[v, .slice (some ⟨w.heap.size, 0, none⟩) 1 1]).run Tryz.prog (w.alloc (.cells #[u] 22)) = .ok (.slice a' (n + 1) c') w') ∧ w'.ownsRow base 22 1 (.slice a' (n + 1) c') (n + 1) (xs ++ [u]) ∧ w.grownBy w' v.ownBlock ∧
      ∀ k, (Value.slice a' (n + 1) c').ownBlock = some k → v.ownBlock = some k ∨ w.heap.size ≤ k := by
  obtain ⟨i0, hi, hz0, hz1, hz2⟩ := info_parts sliceInfo5
  have e0 : (w.alloc (.cells #[u] 22)).heap[w.heap.size]? = some (.cells #[u] 22) := (MapKept.heap_alloc w _).1
  have hcells : ∀ (j : Nat) (x : Value), [u][j]? = some x → (w.alloc (.cells #[u] 22)).cell? ((⟨w.heap.size, 0, none⟩ : Addr).add j) = some x := by
    intro j x hx
    rw [Addr.add_lit, cell_of e0, Nat.zero_add]
    simpa using hx
  obtain ⟨v', w', hrun, h3, h4, _, h5⟩ := run_append_own_at (P := Tryz.prog) (w.alloc (.cells #[u] 22)) base 25 0 22 i0 (.slice none 0 0) 1 24 Tryz.underlying25 hi hz0 hz1 hz2 rfl (by decide) v n xs (hr.alloc _) ⟨w.heap.size, 0, none⟩ 1 1 [u] (by simp) hcells (by simpa using hu) (by unfold maxLen; omega) (by omega) (by simp; omega)
  obtain ⟨a', c', rfl⟩ := row_slice h3
  refine ⟨a', c', w', fun ty => hrun, h3, ⟨h4.os, h4.tape, h4.output, by have := h4.size; simp at this; omega, fun k hk hne => (h4.block k (by simp; omega) hne).trans ((alloc_low w _).block k hk)⟩, fun k hk => ?_⟩
  rcases h5 with h5 | h5
  · exact .inl (h5 ▸ hk)
  · right
    rw [hk] at h5
    have : k = w.heap.size + 1 := by simpa using h5
    omega
/-- records in memory: a row of slices of one's own, each of bytes of its own. -/
def Recs (B : Nat) (W : World) (v : Value) (l : List (List Int)) : Prop := ∃ us : List Value, us.length = l.length ∧ W.ownsRow B 22 1 v l.length us ∧ ∀ i (hi : i < l.length), ∃ u, us[i]? = some u ∧ Frm.Own B W u l[i]
theorem Recs.keep {B : Nat} {W W' : World} {v : Value} {l : List (List Int)} (h : Recs B W v l) (hk : ∀ b, B ≤ b → b < W.heap.size → W'.heap[b]? = W.heap[b]?) : Recs B W' v l := by
  obtain ⟨us, h1, h2, h3⟩ := h
  refine ⟨us, h1, ownsRow_block h2 (fun k hk' => hk k (h2.lt k hk').1 (h2.lt k hk').2), fun i hi => ?_⟩
  obtain ⟨u, h4, h5⟩ := h3 i hi
  exact ⟨u, h4, h5.keep fun k hk' => hk k (h5.lt hk').1 (h5.lt hk').2⟩
theorem Recs.base {B B' : Nat} {W : World} {v : Value} {l : List (List Int)} (h : Recs B W v l) (hB : B' ≤ B) : Recs B' W v l := by
  obtain ⟨us, h1, h2, h3⟩ := h
  refine ⟨us, h1, ownsRow_base h2 (fun k hk => Nat.le_trans hB (h2.lt k hk).1), fun i hi => ?_⟩
  obtain ⟨u, h4, h5⟩ := h3 i hi
  exact ⟨u, h4, h5.base hB⟩
theorem Recs.slice {B : Nat} {W : World} {v : Value} {l : List (List Int)} (h : Recs B W v l) : ∃ a c, v = .slice a l.length c := by
  obtain ⟨us, _, h2, _⟩ := h
  exact row_slice h2
theorem cloneW_put {hi : Nat} {l : List (List Int)} {k : Nat} {args : Array Value} {A : World} {r : Nat} {o : Loop} {o' : Obj} (h : cloneW hi l k args A) (hr : A.heap[r]? = some (.loop o)) : cloneW hi l k args (A.putObj r o') := by
  obtain ⟨a, d, h1, h2⟩ := h
  refine ⟨a, d, h1, h2.keep fun b hb => World.putObj_heap_other ?_⟩
  rintro rfl
  rcases h2.form with ⟨e, _⟩ | ⟨g, c, cur, e, _, _, _, h3, _⟩
  · rw [e] at hb; cases hb
  · rw [e] at hb; cases hb; rw [hr] at h3; cases h3
set_option maxRecDepth 100000 in
set_option maxHeartbeats 4000000 in
theorem appendSeq_all (w : World) (bx : Nat) (v : Value) (zs : List Int) (l : List (List Int)) (r : List Int) (hbx : w.cell? ⟨bx, 0, none⟩ = some v) (h : Frm.IsB w v zs) (hr : Frm.Reads zs l r) (hl : l.length ≤ 4000000) :
    Calls Tryz.prog 88 #[.slice none 0 0, .func (.func 89) #[] #[.pointer (some ⟨bx, 0, none⟩)]] w fun e w' => ∃ a c, e = .returned (.slice a l.length c) ∧ Recs w.heap.size w' (.slice a l.length c) l ∧ Below w.heap.size w w' := by
  refine (callsIn_wide (n := 9)).1 ?_
  refine callsIn_of_wp_marks Tryz.func88 rfl trivial ?_ rfl
  simp only [Tryz.ntmps88, List.size_toArray, List.length_cons, List.length_nil, Nat.reduceAdd, Nat.reduceSub, Array.replicate_succ, Array.replicate_zero, List.push_toArray, List.append_toArray, List.nil_append, List.cons_append]
  gi_wp2_with fail
  have hbl : bx < w.heap.size := World.block_lt_of_cell? w ⟨bx, 0, none⟩ hbx
  have hD0 : DatB bx v zs w := ⟨hbx, h⟩
  have hvl : 0 < zs.length → ∀ b, v.ownBlock = some b → b < w.heap.size := fun h0 b hb => h.lt (by obtain ⟨a, c, rfl⟩ := h.slice; exact h0) hb
  have hb0 : Below w.heap.size w (w.alloc (.cells #[Value.slice none 0 0] 25)) := alloc_low _ _
  have hs0 : (w.alloc (.cells #[Value.slice none 0 0] 25)).heap.size = w.heap.size + 1 := by simp
  have hx0 : Boxed (w.alloc (.cells #[Value.slice none 0 0] 25)) w.heap.size 25 (.slice none 0 0) := Boxed.new w _ _
  generalize w.alloc (.cells #[Value.slice none 0 0] 25) = W0 at *
  have hD1 : DatB bx v zs W0 := datB_kept hD0 (Frm.kept_of_below (F := fun _ => False) hb0) (fun h => h) (fun _ _ _ h => h)
  refine range3 (gf := 89) (lb := #[.pointer (some ⟨bx, 0, none⟩)]) rfl (enters_of Tryz.func89 (by kernel_rfl) rfl)
    (all3 W0 bx v zs l r hD1.1 hD1.2 hr)
    (fun hi k args V hy => by obtain ⟨_, _, rfl, _⟩ := hy; rfl) (fun hi k args A r o o' hy hl => cloneW_put hy hl) (fun hi k args A C hy hb => by obtain ⟨a, d, h1, h2⟩ := hy; exact ⟨a, d, h1, h2.below hb⟩)
    (fun hi k V => ∃ a c, Boxed V w.heap.size 25 (.slice a k c) ∧ Recs hi V (.slice a k c) (l.take k) ∧ DatB bx v zs V ∧ Below w.heap.size w V)
    (fun _ _ _ _ => False)
    (fun hi k A C hi0 hk => by
      obtain ⟨a, c, h1, h2, h3, h4⟩ := hi0
      exact ⟨a, c, (hk.block _ h1.lt (by omega)).trans h1, h2.keep (fun b h5 h6 => hk.block b h6 (by omega)), datB_kept h3 hk (by omega) (fun h0 b hb => by have := hvl h0 b hb; omega), low2 h4 h4.size hk (fun b hb => by omega)⟩)
    (fun _ _ _ _ _ h _ => h)
    (fun hi k A hi0 => by obtain ⟨a, c, h1, h2, h3, h4⟩ := hi0; exact h3)
    (fun hi hh => ⟨none, 0, hx0, ⟨[], rfl, World.ownsRow_nil _ _ _ _, fun i hi => by simp at hi⟩, hD1, hb0⟩)
    (fun args V => { tmps := #[.slice none 0 0, .func (.func 89) #[] #[.pointer (some ⟨bx, 0, none⟩)], .pointer (some ⟨w.heap.size, 0, none⟩), undef, .slice none 0 0, args.getD 0 undef, .func (.func 89) #[] #[.pointer (some ⟨bx, 0, none⟩)], args.getD 0 undef, undef, undef, undef, undef, undef], defers := [] })
    (fun _ V => V) (fun _ V => Below.refl _ _) ?assign ?body ?done ?stop
  case assign =>
    rintro i l1 hi k args V K ⟨a1, d1, rfl, _⟩ hK
    gi_wp2
    exact hK
  case body =>
    rintro i l1 hi k args V0 V hk hh1 hh2 ⟨a, c, hbxd, hrec, hdat, hlow⟩ ⟨a1, d1, rfl, hp⟩ hkp
    have hsV : V0.heap.size ≤ V.heap.size := hkp.size
    obtain ⟨us, h1, h2, h3⟩ := hrec
    have hkl : (l.take k).length = k := by simp; omega
    have hge : l.getD k [] = l[k] := by simp [List.getD, List.getElem?_eq_getElem hk]
    rw [hkl] at h1 h2
    have hc := hbxd.cell
    have rb : ∀ b, (Value.slice a k c).ownBlock = some b → hi ≤ b := fun b hb => (h2.lt b hb).1
    have fin : Hid (∀ (v' : Value) (w' : World), w'.ownsRow hi 22 1 v' (k + 1) (us ++ [.slice a1 (l.getD k []).length d1]) → (V.alloc (.cells #[.slice a1 (l.getD k []).length d1] 22)).grownBy w' (Value.slice a k c).ownBlock → ∃ a' c', v' = .slice a' (k + 1) c' ∧ w'.cell? ⟨w.heap.size, 0, none⟩ = some (.slice a k c) ∧ w'.frozen? ⟨w.heap.size, 0, none⟩ = false ∧ Hid (Lies W0.heap.size hi V (w'.setCell ⟨w.heap.size, 0, none⟩ (.slice a' (k + 1) c')) ∧ ∃ a c, Boxed (w'.setCell ⟨w.heap.size, 0, none⟩ (.slice a' (k + 1) c')) w.heap.size 25 (.slice a (k + 1) c) ∧ Recs hi (w'.setCell ⟨w.heap.size, 0, none⟩ (.slice a' (k + 1) c')) (.slice a (k + 1) c) (l.take (k + 1)) ∧ DatB bx v zs (w'.setCell ⟨w.heap.size, 0, none⟩ (.slice a' (k + 1) c')) ∧ Below w.heap.size w (w'.setCell ⟨w.heap.size, 0, none⟩ (.slice a' (k + 1) c')))) := by
      intro v' w' hrow' hgr0
      obtain ⟨a', c', rfl⟩ := row_slice hrow'
      have hgz : V.heap.size ≤ w'.heap.size := by have := hgr0.size; simp at this; omega
      have gk : ∀ b, b < V.heap.size → (Value.slice a k c).ownBlock ≠ some b → w'.heap[b]? = V.heap[b]? := fun b hb hn => (hgr0.block b (by simp; omega) (fun e => hn e.symm)).trans ((alloc_low V _).block b hb)
      have bx' : Boxed w' w.heap.size 25 (.slice a k c) := (gk _ hbxd.lt (fun e => by have := rb _ e; omega)).trans hbxd
      refine ⟨a', c', rfl, bx'.cell, bx'.frozen, ?_⟩
      show _ ∧ _
      have uk : ∀ {u : Value} {zz : List Int}, Frm.Own hi V u zz → Frm.Own hi (w'.setCell ⟨w.heap.size, 0, none⟩ (.slice a' (k + 1) c')) u zz := fun {u zz} hu => hu.keep fun b hb => by
        have hlt := hu.lt hb
        refine (heap_set _ _ _ _ _ (by omega)).trans (gk b hlt.2 (fun e => ?_))
        rcases hu.form with ⟨e1, _⟩ | ⟨g1, c1, cur1, e1, _, _, _, h6, _⟩
        · rw [e1] at hb; cases hb
        · rw [e1] at hb; cases hb
          rcases h2.2 with ⟨e2, _⟩ | ⟨g2, cap2, cur2, e2, _, h7, _⟩
          · rw [e2] at e; cases e
          · rw [e2] at e; cases e; rw [h6] at h7; simp at h7
      have hkl1 : (l.take (k + 1)).length = k + 1 := by simp; omega
      have kp : Frm.Kept (fun b => hi ≤ b ∨ b = w.heap.size) V (w'.setCell ⟨w.heap.size, 0, none⟩ (.slice a' (k + 1) c')) :=
        ⟨hgr0.os, hgr0.tape, hgr0.output, by simp [World.setCell]; omega, fun b hb hn => (heap_set _ _ _ _ _ (fun e => hn (.inr e))).trans (gk b hb (fun e => hn (.inl (rb b e))))⟩
      refine ⟨⟨kp.size, fun b h4 h5 => kp.block b (by omega) (by omega)⟩, a', c', bx'.set _, ⟨us ++ [.slice a1 (l.getD k []).length d1], by simp [h1, hkl1], ?_, fun i hi' => ?_⟩, datB_kept hdat kp (by omega) (fun h0 b hb => by have := hvl h0 b hb; omega), ?_⟩
      · rw [hkl1]
        refine ownsRow_block hrow' (fun b hb => heap_set _ _ _ _ _ (fun e => ?_))
        have := (hrow'.lt b hb).1
        omega
      · rw [hkl1] at hi'
        by_cases e : i = k
        · subst e
          refine ⟨.slice a1 (l.getD i []).length d1, by rw [List.getElem?_append_right (by omega)]; simp [h1], ?_⟩
          have := uk hp
          rw [List.getElem_take]
          rw [← hge]
          exact this
        · obtain ⟨u, h4, h5⟩ := h3 i (by omega)
          refine ⟨u, by rw [List.getElem?_append_left (by omega)]; exact h4, ?_⟩
          have := uk h5
          rw [List.getElem_take] at this ⊢
          exact this
      · refine low2 hlow hlow.size kp (fun b hb => ?_)
        rcases hb with hb | hb <;> omega
    obtain ⟨i0, hi0, hz0, hz1, hz2⟩ := info_parts sliceInfo5
    have hk4 : k ≤ 4000000 := by omega
    have hhV : hi ≤ V.heap.size := by omega
    clear hp hkp rb h3 hbxd hdat hlow hge
    generalize l.getD k [] = p at *
    replace h2 := hid h2
    gi_wp2_with (gi_at_builtin; refine wpListIn_append_own _ rfl _ _ 25 rfl hi 22 i0 (.slice none 0 0) 1 24 Tryz.underlying25 hi0 hz0 hz1 hz2 rfl (by decide) _ _ _ rfl (h2.out.alloc _) ⟨V.heap.size, 0, none⟩ 1 1 [.slice a1 p.length d1] rfl rfl (cell_one_new _ _ _) (by simp [Value.oneCell']) (by unfold maxLen; omega) (by omega) (by simp; omega) ?_; intro v' w1 hown' hgrow _; obtain ⟨a', c', rfl, q1, q2, q3⟩ := fin.out v' w1 hown' hgrow; clear hown' hgrow)
    exact q3.out
  case done =>
    rintro hi V hh1 hh2 ⟨a, c, hbxd, hrec, hdat, hlow⟩ hK
    rw [List.take_length] at hrec
    have hc := hbxd.cell
    have hlt := hbxd.lt
    rw [hs0] at hK
    have fin : Hid (Recs w.heap.size (V.putObj (w.heap.size + 1) (.deferred none)) (.slice a l.length c) l ∧ Below w.heap.size w (V.putObj (w.heap.size + 1) (.deferred none))) :=
      ⟨(hrec.keep (fun b h1 h2 => World.putObj_heap_other (by omega))).base (by omega), hlow.trans (Frm.below_put _ _ _ (by omega))⟩
    clear hrec hdat hlow hbxd
    simp only [hs0]
    gi_wp2
    refine ⟨by simp, .inl ⟨_, _, rfl, run_takeDeferred hK, ?_⟩⟩
    exact ⟨_, results_tmp rfl _ _ _, a, c, rfl, fin.out⟩
  case stop =>
    rintro hi c k V hh1 hh2 hk h hK
    exact h.elim
set_option maxHeartbeats 1000000 in
theorem collect_all (w : World) (bx : Nat) (v : Value) (zs : List Int) (l : List (List Int)) (r : List Int) (hbx : w.cell? ⟨bx, 0, none⟩ = some v) (h : Frm.IsB w v zs) (hr : Frm.Reads zs l r) (hl : l.length ≤ 4000000) :
    Calls Tryz.prog 57 #[.func (.func 89) #[] #[.pointer (some ⟨bx, 0, none⟩)]] w fun e w' => ∃ a c, e = .returned (.slice a l.length c) ∧ Recs w.heap.size w' (.slice a l.length c) l ∧ Below w.heap.size w w' := by
  have hc := hid (appendSeq_all w bx v zs l r hbx h hr hl)
  clear h hbx hr
  go_enter Tryz.func57, Tryz.ntmps57
  go_wp2_with fail
  refine hc.out.mono ?_
  rintro e w1 ⟨a, c, rfl, h1, h2⟩
  replace h1 := hid h1
  replace h2 := hid h2
  go_wp2
  go_ret
  exact ⟨a, c, rfl, h1.out, h2.out⟩
end Go.Proofs.YtihgikekkgoddaaGreatDoor
