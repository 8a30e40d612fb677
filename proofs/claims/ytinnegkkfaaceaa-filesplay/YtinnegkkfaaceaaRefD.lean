/- Contracts of the document's store: put. -/
import Derived.Test.YtinnegkkfaaceaaRefC
import Derived.Sort.Walk0
namespace Go.Proofs.Ytinnegkkfaaceaa
open Go.RowKit Go.Maps Go.MapKept Go.Shelf

def RStepX (X : Nat → Prop) (B rb : Nat) (w w' : World) (R R' : Rs) : Prop := RefAt B w' rb R' ∧ Kept (rfoot rb R) w w' ∧ (∀ k, rfoot rb R' k → rfoot rb R k ∨ w.heap.size ≤ k ∨ X k) ∧ ∀ v n xs, w.ownsRow B 5 1 v n xs → w'.ownsRow B 5 1 v n xs
theorem RStep.transX {X : Nat → Prop} {B rb : Nat} {w w' w'' : World} {R R' R'' : Rs} (h : RStep B rb w w' R R') (k : RStepX X B rb w' w'' R' R'') (hX : ∀ k, X k → rfoot rb R k ∨ w.heap.size ≤ k) : RStep B rb w w'' R R'' :=
  ⟨k.1, h.kept.trans k.2.1 h.fresh, fun i hi => by
    rcases k.2.2.1 i hi with e | e | e
    · exact h.fresh i e
    · exact .inr (Nat.le_trans h.kept.size e)
    · exact hX i e, fun v n xs hv => k.2.2.2 v n xs (h.old v n xs hv)⟩
theorem insP_len (x : Ent × Value) : ∀ ps : List (Ent × Value), (insP x ps).length = ps.length + 1
  | [] => rfl
  | g :: r => by
    unfold insP
    split
    · simp
    · simp [insP_len x r]
set_option maxHeartbeats 4000000 in
theorem rput {B rb : Nat} {R : Rs} (w : World) (h : RefAt B w rb R) (f : Ent) (va : Option Addr) (vc : Nat) (hv : w.ownsRow B 5 1 (.slice va f.b.length vc) f.b.length (f.b.map bv)) (hl : R.ps.length ≤ 1000) :
    Calls Try.prog 59 #[ptr rb, .agg #[str f.name, .slice va f.b.length vc, .int .i64 (f.s : Int)]] w fun e w' => e = .returned (.tuple #[]) ∧ ∃ lv, RStepX (fun k => (Value.slice va f.b.length vc).ownBlock = some k) B rb w w' R { R with lv := lv, ps := insP (f, .slice va f.b.length vc) (delP f.name R.ps) } := by
  have hb := alloc_below w (.cells #[str f.name, .slice va f.b.length vc, .int .i64 (f.s : Int)] 35)
  have hcut := hid (rcut _ (h.below hb) f.name hl)
  have b0 : (w.alloc (.cells #[str f.name, .slice va f.b.length vc, .int .i64 (f.s : Int)] 35)).heap[w.heap.size]? = some (.cells #[str f.name, .slice va f.b.length vc, .int .i64 (f.s : Int)] 35) := (MapKept.heap_alloc w _).1
  have CX : Hid (∀ w1 lv, RStep B rb (w.alloc (.cells #[str f.name, .slice va f.b.length vc, .int .i64 (f.s : Int)] 35)) w1 R { R with lv := lv, ps := delP f.name R.ps } → w1.heap[w.heap.size]? = some (.cells #[str f.name, .slice va f.b.length vc, .int .i64 (f.s : Int)] 35) ∧ RefAt B w1 rb { R with lv := lv, ps := delP f.name R.ps } ∧ w1.ownsRow B 5 1 (.slice va f.b.length vc) f.b.length (f.b.map bv) ∧ RStep B rb w w1 R { R with lv := lv, ps := delP f.name R.ps }) := by
    intro w1 lv hs
    refine ⟨(hs.kept.block _ (by simp) fun e => ?_).trans b0, hs.ref, hs.old _ _ _ (hv.alloc _), (RStep.below h hb).trans hs⟩
    have := h.lt e
    omega
  have hdl : (delP f.name R.ps).length ≤ 1000 := Nat.le_trans (List.length_filter_le _ _) hl
  clear h hb hv b0
  unfold ptr str at *
  go_enter Try.func59, Try.ntmps59
  go_wp2_with fail
  refine hcut.out.mono ?_
  rintro e w1 ⟨rfl, lv, hs⟩
  obtain ⟨b1, r1, v1, S1⟩ := CX.out w1 lv hs
  replace r1 := hid r1
  replace v1 := hid v1
  replace S1 := hid S1
  clear hcut CX hs
  obtain ⟨la, lc, hlv⟩ := r1.out.slice
  change lv = .slice la (delP f.name R.ps).length lc at hlv
  subst hlv
  generalize hds : delP f.name R.ps = ds at *
  replace hds := hid hds
  have hst := hid (Mid.start r1.out (Below.refl _ w1))
  go_wp2_with fail
  go_loopw [4, 5, 6] (fun lv dv iv wr => ∃ (k : Nat) (a : Option Addr) (c : Nat) (qs : List (Ent × Value)), k ≤ ds.length ∧ iv = .int .i64 k ∧ lv = .slice a qs.length c ∧ Mid B rb w1 wr { R with lv := .slice la ds.length lc, ps := ds } (.slice a qs.length c) qs ∧ ((dv = .bool false ∧ qs = ds.take k ∧ ∀ p ∈ ds.take k, ¬ f.name < p.1.name) ∨ (dv = .bool true ∧ qs = insP (f, .slice va f.b.length vc) (ds.take k) ∧ ∃ p ∈ ds.take k, f.name < p.1.name))) (fun _ _ iv _ => ds.length - (intOf iv).toNat)
  case atStart => exact ⟨0, none, 0, [], by omega, rfl, rfl, hst.out, .inl ⟨rfl, rfl, by simp⟩⟩
  case round =>
    obtain ⟨k, a, c, qs, hk, rfl, rfl, hm, hdone⟩ := hrel
    have hql : qs.length ≤ 1001 := by
      rcases hdone with ⟨_, e, _⟩ | ⟨_, e, _⟩
      · rw [e]; simp; omega
      · rw [e, insP_len]; simp; omega
    have c0 : wr.cell? ⟨rb, 0, none⟩ = some (.slice la ds.length lc) := by rw [cell_of hm.ref.cell]; rfl
    have bf : wr.heap[w.heap.size]? = some (.cells #[.string ⟨f.name.toArray⟩, .slice va f.b.length vc, .int .i64 (f.s : Int)] 35) := (hm.low.block _ (lt_of_block b1)).trans b1
    have f0 : wr.cell? ⟨w.heap.size, 0, none⟩ = some (.string ⟨f.name.toArray⟩) := by rw [cell_of bf]; rfl
    have f1 : wr.cell? ⟨w.heap.size, 1, none⟩ = some (.slice va f.b.length vc) := by rw [cell_of bf]; rfl
    have f2 : wr.cell? ⟨w.heap.size, 2, none⟩ = some (.int .i64 (f.s : Int)) := by rw [cell_of bf]; rfl
    replace hm := hid hm
    clear hst bf
    by_cases hlt : k < ds.length
    · have hlt' : (k : Int) < (ds.length : Int) := by omega
      obtain ⟨p, hp⟩ : ∃ p, ds[k]? = some p := ⟨_, List.getElem?_eq_getElem hlt⟩
      obtain ⟨lb, lc', e, k0, k1, k2, _, _⟩ := hm.out.ref.at hp
      injection e with e1 e2 e3
      subst e1 e3
      obtain ⟨pa, pc, hp2⟩ := row_slice (r1.out.els p (List.mem_of_getElem? hp))
      rw [hp2] at k1
      unfold str at k0
      clear e2
      have eP : (p.1, Value.slice pa p.1.b.length pc) = p := by rw [← hp2]
      have htk : ds.take (k + 1) = ds.take k ++ [p] := by
        obtain ⟨hk', rfl⟩ := List.getElem?_eq_some_iff.1 hp
        exact List.take_succ_eq_append_getElem hk'
      have ltk : (ds.take k).length = k := by simp; omega
      -- a file put behind, and one more
      have two : Hid (∀ q : Nat, ∃ a' c' w', (∀ ty, (Builtin.append_ #[65, 65] ty #[.slice a qs.length c, .slice (some ⟨wr.heap.size, 0, none⟩) 1 1]).run Try.prog ((wr.drewN q).alloc (.cells #[.string ⟨f.name.toArray⟩, .slice va f.b.length vc, .int .i64 (f.s : Int)] 35)) = .ok (.slice a' (qs.length + 1) c') w') ∧
          (w'.cell? ⟨rb, 0, none⟩ = some (.slice (some ⟨lb, 0, none⟩) ds.length lc) ∧ w'.cell? ⟨lb, k * 3, none⟩ = some (.string ⟨p.1.name.toArray⟩) ∧ w'.cell? ⟨lb, k * 3 + 1, none⟩ = some (.slice pa p.1.b.length pc) ∧ w'.cell? ⟨lb, k * 3 + 2, none⟩ = some (.int .i64 (p.1.s : Int))) ∧
          ∃ a2 c2 w2, (∀ ty, (Builtin.append_ #[65, 65] ty #[.slice a' (qs.length + 1) c', .slice (some ⟨w'.heap.size, 0, none⟩) 1 1]).run Try.prog (w'.alloc (.cells #[.string ⟨p.1.name.toArray⟩, .slice pa p.1.b.length pc, .int .i64 (p.1.s : Int)] 35)) = .ok (.slice a2 (qs.length + 1 + 1) c2) w2) ∧ Mid B rb w1 w2 { R with lv := .slice (some ⟨lb, 0, none⟩) ds.length lc, ps := ds } (.slice a2 (qs.length + 1 + 1) c2) (qs ++ [(f, .slice va f.b.length vc)] ++ [p])) := by
        intro q
        obtain ⟨a', c', w', r1', m1, _⟩ := (hm.out.drew q).push r1.out f va f.b.length vc (by omega)
        have m1' := m1
        rw [show qs.length + 1 = (qs ++ [(f, Value.slice va f.b.length vc)]).length by simp] at m1'
        obtain ⟨a2, c2, w2, r2', m2, _⟩ := m1'.push r1.out p.1 pa p.1.b.length pc (by simp; omega)
        rw [eP] at m2
        simp only [List.length_append, List.length_cons, List.length_nil, Nat.zero_add] at r2' m2
        obtain ⟨lb2, lc2, e', k0', k1', k2', _, _⟩ := m1.ref.at hp
        injection e' with e1' e2' e3'
        injection e1' with e1'
        injection e1' with e1' _ _
        subst e1'
        rw [hp2] at k1'
        exact ⟨a', c', w', r1', ⟨by rw [cell_of m1.ref.cell]; rfl, k0', k1', k2'⟩, a2, c2, w2, r2', m2⟩
      have one : Hid (∀ q : Nat, ∃ a2 c2 w2, (∀ ty, (Builtin.append_ #[65, 65] ty #[.slice a qs.length c, .slice (some ⟨wr.heap.size, 0, none⟩) 1 1]).run Try.prog ((wr.drewN q).alloc (.cells #[.string ⟨p.1.name.toArray⟩, .slice pa p.1.b.length pc, .int .i64 (p.1.s : Int)] 35)) = .ok (.slice a2 (qs.length + 1) c2) w2) ∧ Mid B rb w1 w2 { R with lv := .slice (some ⟨lb, 0, none⟩) ds.length lc, ps := ds } (.slice a2 (qs.length + 1) c2) (qs ++ [p])) := by
        intro q
        obtain ⟨a2, c2, w2, r2', m2, _⟩ := (hm.out.drew q).push r1.out p.1 pa p.1.b.length pc (by omega)
        rw [eP] at m2
        exact ⟨a2, c2, w2, r2', m2⟩
      replace htk := hid htk
      clear eP hp2 hm
      rcases hdone with ⟨rfl, hq, hall⟩ | ⟨rfl, hq, hex⟩
      · replace hq := hid hq
        replace hall := hid hall
        by_cases hlp : f.name < p.1.name
        · have hb1 : Op.bytesLess p.1.name f.name = false := by
            rw [bytesLess_eq]
            simp only [decide_eq_false_iff_not]
            exact fun h' => lt_irrefl _ (lt_trans hlp h')
          have hb2 : (p.1.name == f.name) = false := by
            simp only [beq_eq_false_iff_ne, ne_eq]
            intro h'
            rw [h'] at hlp
            exact lt_irrefl _ hlp
          have fin : Hid (qs ++ [(f, .slice va f.b.length vc)] ++ [p] = insP (f, .slice va f.b.length vc) (ds.take (k + 1)) ∧ True ∧ ∃ p ∈ ds.take (k + 1), f.name < p.1.name) := by
            refine ⟨?_, ?_, p, ?_, hlp⟩
            · rw [htk.out, hq.out, insP_hit (f, .slice va f.b.length vc) p hlp _ hall.out]
            · trivial
            · rw [htk.out]; simp
          clear one hlp hp
          go_wp2
          go_quiet (fail)
          obtain ⟨a', c', w', r1', ⟨j0, j1, j2, j3⟩, a2, c2, w2, r2', m2⟩ := two.out nq
          replace m2 := hid m2
          clear two
          go_wp2_with (first | (at_builtin; refine wpList_append_run _ rfl _ _ 65 rfl _ _ _ _ rfl rfl r1' ?_; clear r1') | (at_builtin; refine wpList_append_run _ rfl _ _ 65 rfl _ _ _ _ rfl rfl r2' ?_))
          have el : (qs ++ [(f, Value.slice va f.b.length vc)] ++ [p]).length = qs.length + 1 + 1 := by simp
          exact ⟨⟨k + 1, a2, c2, _, by omega, by go_num, by rw [el], by rw [el]; exact m2.out, .inr ⟨rfl, fin.out.1, fin.out.2.2⟩⟩, by simp [intOf]; omega⟩
        · have fin : Hid (qs ++ [p] = ds.take (k + 1) ∧ ∀ p ∈ ds.take (k + 1), ¬ f.name < p.1.name) := by
            rw [htk.out, hq.out]
            refine ⟨rfl, fun y hy => ?_⟩
            rcases List.mem_append.1 hy with hy | hy
            · exact hall.out y hy
            · rw [List.mem_singleton.1 hy]; exact hlp
          by_cases hpe : p.1.name = f.name
          · have hb2 : (p.1.name == f.name) = true := by simpa using hpe
            clear two hlp hp hpe
            go_wp2
            go_quiet (fail)
            obtain ⟨a2, c2, w2, r2', m2⟩ := one.out nq
            replace m2 := hid m2
            clear one
            go_wp2_with (at_builtin; refine wpList_append_run _ rfl _ _ 65 rfl _ _ _ _ rfl rfl r2' ?_)
            have el : (qs ++ [p]).length = qs.length + 1 := by simp
            exact ⟨⟨k + 1, a2, c2, _, by omega, by go_num, by rw [el], by rw [el]; exact m2.out, .inl ⟨rfl, fin.out.1, fin.out.2⟩⟩, by simp [intOf]; omega⟩
          · have hb1 : Op.bytesLess p.1.name f.name = true := by
              rw [bytesLess_eq]
              simp only [decide_eq_true_eq]
              exact lt_of_not hlp fun e => hpe e.symm
            clear two hlp hp hpe
            go_wp2
            go_quiet (fail)
            obtain ⟨a2, c2, w2, r2', m2⟩ := one.out nq
            replace m2 := hid m2
            clear one
            go_wp2_with (at_builtin; refine wpList_append_run _ rfl _ _ 65 rfl _ _ _ _ rfl rfl r2' ?_)
            have el : (qs ++ [p]).length = qs.length + 1 := by simp
            exact ⟨⟨k + 1, a2, c2, _, by omega, by go_num, by rw [el], by rw [el]; exact m2.out, .inl ⟨rfl, fin.out.1, fin.out.2⟩⟩, by simp [intOf]; omega⟩
      · have fin : Hid (qs ++ [p] = insP (f, .slice va f.b.length vc) (ds.take (k + 1)) ∧ ∃ p ∈ ds.take (k + 1), f.name < p.1.name) := by
          rw [htk.out, hq, insP_on _ _ _ hex]
          obtain ⟨y, hy, hlt⟩ := hex
          exact ⟨rfl, y, List.mem_append.2 (.inl hy), hlt⟩
        clear two hp hq hex
        go_wp2
        go_quiet (fail)
        obtain ⟨a2, c2, w2, r2', m2⟩ := one.out nq
        replace m2 := hid m2
        clear one
        go_wp2_with (at_builtin; refine wpList_append_run _ rfl _ _ 65 rfl _ _ _ _ rfl rfl r2' ?_)
        have el : (qs ++ [p]).length = qs.length + 1 := by simp
        exact ⟨⟨k + 1, a2, c2, _, by omega, by go_num, by rw [el], by rw [el]; exact m2.out, .inr ⟨rfl, fin.out.1, fin.out.2⟩⟩, by simp [intOf]; omega⟩
    · have hge : ¬ (k : Int) < (ds.length : Int) := by omega
      obtain rfl : k = ds.length := by omega
      rw [List.take_length] at hdone
      have lay : Hid (∀ W lv', Mid B rb w1 W { R with lv := .slice la ds.length lc, ps := ds } lv' (insP (f, .slice va f.b.length vc) ds) → W.frozen? ⟨rb, 0, none⟩ = false ∧ W.cell? ⟨rb, 0, none⟩ = some (.slice la ds.length lc) ∧ RStepX (fun k => (Value.slice va f.b.length vc).ownBlock = some k) B rb w (W.setCell ⟨rb, 0, none⟩ lv') R { R with lv := lv', ps := insP (f, .slice va f.b.length vc) ds }) := by
        intro W lv' m
        obtain ⟨q1, q2, q3, q4⟩ := m.lay r1.out (fun p hp => by
          rcases mem_insP _ _ _ hp with rfl | hp
          · exact v1.out
          · exact r1.out.els p hp) (fun k => (Value.slice va f.b.length vc).ownBlock = some k) (fun p hp k hk => by
          rcases mem_insP _ _ _ hp with rfl | hp
          · exact .inr hk
          · exact .inl (.inr (.inr ⟨p, hp, hk⟩)))
        refine ⟨frozen_of m.ref.cell 0, by rw [cell_of m.ref.cell]; rfl, q1, S1.out.kept.trans q2 S1.out.fresh, fun k hk => ?_, fun v n xs hv => q4 v n xs (S1.out.old v n xs hv)⟩
        rcases q3 k hk with e | e | e
        · exact (S1.out.fresh k e).imp id .inl
        · exact .inr (.inl (Nat.le_trans S1.out.kept.size e))
        · exact .inr (.inr e)
      rcases hdone with ⟨rfl, hq, hall⟩ | ⟨rfl, hq, hex⟩
      · obtain ⟨a2, c2, w2, r2', m2, _⟩ := hm.out.push r1.out f va f.b.length vc (by omega)
        rw [show qs ++ [(f, .slice va f.b.length vc)] = insP (f, .slice va f.b.length vc) ds by rw [hq, insP_end _ _ hall]] at m2
        obtain ⟨g1, g2, g3⟩ := lay.out _ _ m2
        replace g3 := hid g3
        replace hq := hid hq
        clear hall m2 lay hm
        unfold str at r2'
        go_wp2_with (at_builtin; refine wpList_append_run _ rfl _ _ 65 rfl _ _ _ _ rfl rfl r2' ?_)
        go_end0
        rw [hds.out]
        exact ⟨rfl, _, g3.out⟩
      · have m2 := hm.out
        rw [hq] at m2
        obtain ⟨g1, g2, g3⟩ := lay.out _ _ m2
        rw [← hq] at g3
        replace g3 := hid g3
        replace hq := hid hq
        clear hex m2 lay hm
        go_wp2
        go_end0
        rw [hds.out, ← hq.out]
        exact ⟨rfl, _, g3.out⟩
end Go.Proofs.Ytinnegkkfaaceaa
