/- Contracts of the document's store: cut. -/
import Derived.Test.YtinnegkkfaaceaaRefB
namespace Go.Proofs.Ytinnegkkfaaceaa
open Go.RowKit Go.Maps Go.MapKept Go.Shelf

def delP (n : List UInt8) (ps : List (Ent × Value)) : List (Ent × Value) := ps.filter fun p => !(p.1.name == n)
def insP (x : Ent × Value) : List (Ent × Value) → List (Ent × Value)
  | [] => [x]
  | g :: r => if x.1.name < g.1.name then x :: g :: r else g :: insP x r
theorem map_delP (n : List UInt8) (ps : List (Ent × Value)) : (delP n ps).map Prod.fst = delE n (ps.map Prod.fst) := by
  unfold delP delE
  rw [List.filter_map]
  rfl
theorem map_insP (x : Ent × Value) : ∀ ps : List (Ent × Value), (insP x ps).map Prod.fst = insE x.1 (ps.map Prod.fst)
  | [] => rfl
  | g :: r => by
    show (if x.1.name < g.1.name then x :: g :: r else g :: insP x r).map Prod.fst = if x.1.name < g.1.name then _ else _
    by_cases h : x.1.name < g.1.name
    · rw [if_pos h, if_pos h]; rfl
    · rw [if_neg h, if_neg h, List.map_cons, map_insP x r]
theorem mem_insP (x y : Ent × Value) : ∀ ps : List (Ent × Value), y ∈ insP x ps → y = x ∨ y ∈ ps
  | [], h => by simpa [insP] using h
  | g :: r, h => by
    unfold insP at h
    split at h
    · simpa using h
    · rcases List.mem_cons.1 h with h | h
      · exact .inr (h ▸ List.mem_cons_self)
      · exact (mem_insP x y r h).imp id fun h => List.mem_cons_of_mem _ h
theorem insP_end (x : Ent × Value) : ∀ ps : List (Ent × Value), (∀ p ∈ ps, ¬ x.1.name < p.1.name) → insP x ps = ps ++ [x]
  | [], _ => rfl
  | g :: r, h => by
    unfold insP
    rw [if_neg (h g List.mem_cons_self), insP_end x r fun p hp => h p (List.mem_cons_of_mem _ hp)]; rfl
theorem insP_hit (x y : Ent × Value) (hy : x.1.name < y.1.name) : ∀ ps : List (Ent × Value), (∀ p ∈ ps, ¬ x.1.name < p.1.name) → insP x (ps ++ [y]) = ps ++ [x] ++ [y]
  | [], _ => by simp [insP, hy]
  | g :: r, h => by
    show (if x.1.name < g.1.name then _ else g :: insP x (r ++ [y])) = _
    rw [if_neg (h g List.mem_cons_self), insP_hit x y hy r fun p hp => h p (List.mem_cons_of_mem _ hp)]; rfl
theorem insP_on (x y : Ent × Value) : ∀ ps : List (Ent × Value), (∃ p ∈ ps, x.1.name < p.1.name) → insP x (ps ++ [y]) = insP x ps ++ [y]
  | [], h => by obtain ⟨p, hp, _⟩ := h; cases hp
  | g :: r, h => by
    show (if x.1.name < g.1.name then _ else g :: insP x (r ++ [y])) = (if x.1.name < g.1.name then _ else _) ++ [y]
    by_cases hg : x.1.name < g.1.name
    · rw [if_pos hg, if_pos hg]; rfl
    · rw [if_neg hg, if_neg hg]
      have : ∃ p ∈ r, x.1.name < p.1.name := by
        obtain ⟨p, hp, hlt⟩ := h
        rcases List.mem_cons.1 hp with rfl | hp
        · exact absurd hlt hg
        · exact ⟨p, hp, hlt⟩
      rw [insP_on x y r this]; rfl
theorem delP_take (n : List UInt8) (ps : List (Ent × Value)) (k : Nat) (p : Ent × Value) (hp : ps[k]? = some p) : delP n (ps.take (k + 1)) = if p.1.name == n then delP n (ps.take k) else delP n (ps.take k) ++ [p] := by
  obtain ⟨hk, rfl⟩ := List.getElem?_eq_some_iff.1 hp
  rw [List.take_succ_eq_append_getElem hk]
  unfold delP
  rw [List.filter_append]
  cases h : (ps[k].1.name == n)
  · simp [h]
  · simp [h]
theorem fileInfo : (Try.prog.info? 35).map (fun i => (i.zero, i.size, i.bytes)) = some (some (.agg #[.string ⟨#[]⟩, .slice none 0 0, .int .i64 0]), 3, 48) := by kernel_rfl
/-- how far a new row of files has come. -/
structure Mid (B rb : Nat) (w wr : World) (R : Rs) (lv : Value) (qs : List (Ent × Value)) : Prop where
  ref : RefAt B wr rb R
  row : wr.ownsRow w.heap.size 35 3 lv qs.length (flat3 qs)
  low : Below w.heap.size w wr
section
variable {B rb : Nat} {w wr : World} {R : Rs} {lv : Value} {qs : List (Ent × Value)}
theorem Mid.start (h : RefAt B wr rb R) (hb : Below w.heap.size w wr) : Mid B rb w wr R (.slice none 0 0) [] := ⟨h, World.ownsRow_nil _ _ _ _, hb⟩
theorem Mid.drew (h : Mid B rb w wr R lv qs) (q : Nat) : Mid B rb w (wr.drewN q) R lv qs :=
  ⟨h.ref.keep (Nat.le_refl _) fun _ _ => rfl, h.row, ⟨h.low.os, h.low.tape, h.low.output, h.low.size, h.low.block⟩⟩
theorem Mid.push (h : Mid B rb w wr R lv qs) (hw : RefAt B w rb R) (f : Ent) (a : Option Addr) (n c : Nat) (hn : qs.length ≤ 2000) :
    ∃ a' c' w', (∀ ty, (Builtin.append_ #[65, 65] ty #[lv, .slice (some ⟨wr.heap.size, 0, none⟩) 1 1]).run Try.prog (wr.alloc (.cells #[str f.name, .slice a n c, .int .i64 (f.s : Int)] 35)) = .ok (.slice a' (qs.length + 1) c') w') ∧ Mid B rb w w' R (.slice a' (qs.length + 1) c') (qs ++ [(f, .slice a n c)]) ∧ wr.grownBy w' lv.ownBlock := by
  obtain ⟨i0, hi, hz0, hz1, hz2⟩ := info_parts fileInfo
  obtain ⟨a', c', w', hrun, hown, hgr, hat⟩ := push_run (i := i0) (z := .agg #[.string ⟨#[]⟩, .slice none 0 0, .int .i64 0]) (size := 3) (bytes := 48) Try.underlying65 hi hz0 hz1 hz2 rfl (by decide) h.row (cells3 (f, .slice a n c)) rfl (by intro u hu; simp [cells3] at hu; rcases hu with rfl | rfl | rfl <;> rfl) (by omega) (by decide) h.low.size
  have hne : ∀ k, lv.ownBlock = some k → w.heap.size ≤ k := fun k hk => (h.row.lt k hk).1
  refine ⟨a', c', w', hrun, ⟨h.ref.keep hgr.size fun k hk => hgr.block k (h.ref.lt hk) fun e => ?_, ?_, ?_⟩, hgr⟩
  · have := hne k e.symm
    have := hw.lt hk
    omega
  · rw [flat3_append, List.length_append]
    have e : flat3 [(f, .slice a n c)] = cells3 (f, .slice a n c) := by simp [flat3]
    rw [e]
    exact hown
  · exact h.low.trans ⟨hgr.os, hgr.tape, hgr.output, hgr.size, fun k hk => hgr.block k (by have := h.low.size; omega) fun e => by have := hne k e.symm; omega⟩
/-- the new row takes the old one's place. -/
theorem Mid.lay (h : Mid B rb w wr R lv qs) (hw : RefAt B w rb R) (hels : ∀ p ∈ qs, w.ownsRow B 5 1 p.2 p.1.b.length (p.1.b.map bv)) (X : Nat → Prop) (hX : ∀ p ∈ qs, ∀ k, p.2.ownBlock = some k → rfoot rb R k ∨ X k) :
    RefAt B (wr.setCell ⟨rb, 0, none⟩ lv) rb { R with lv := lv, ps := qs } ∧ Kept (rfoot rb R) w (wr.setCell ⟨rb, 0, none⟩ lv) ∧ (∀ k, rfoot rb { R with lv := lv, ps := qs } k → rfoot rb R k ∨ w.heap.size ≤ k ∨ X k) ∧ ∀ v n xs, w.ownsRow B 5 1 v n xs → (wr.setCell ⟨rb, 0, none⟩ lv).ownsRow B 5 1 v n xs := by
  have hb' : ∀ {e s v n xs}, wr.ownsRow B e s v n xs → e ≠ 67 → (wr.setCell ⟨rb, 0, none⟩ lv).ownsRow B e s v n xs := fun {e s v n xs} hv he => ownsRow_block hv fun k hk' => heap_set _ _ _ _ _ fun e' => by
    obtain ⟨c, h1⟩ := row_block1 hv hk'
    rw [e', h.ref.cell] at h1
    simp at h1
    exact he h1.2.symm
  have old : ∀ v n xs, w.ownsRow B 5 1 v n xs → (wr.setCell ⟨rb, 0, none⟩ lv).ownsRow B 5 1 v n xs := fun v n xs hv => hb' (ownsRow_block hv fun k hk => h.low.block k (hv.lt k hk).2) (by decide)
  refine ⟨⟨?_, hb' (ownsRow_base h.row fun k hk => Nat.le_trans hw.size (h.row.lt k hk).1) (by decide), fun p hp => old _ _ _ (hels p hp), h.ref.base, by rw [size_set]; exact h.ref.size⟩, ?_, fun k hk => ?_, old⟩
  · rw [heap_set_at h.ref.cell]; simp
  · refine ⟨h.low.os, h.low.tape, h.low.output, by rw [size_set]; exact h.low.size, fun k hk hn => ?_⟩
    rw [heap_set _ _ _ _ _ fun e => hn (.inl e)]
    exact h.low.block k hk
  · rcases hk with rfl | hk | ⟨p, hp, hk⟩
    · exact .inl (.inl rfl)
    · exact .inr (.inl (h.row.lt k hk).1)
    · exact (hX p hp k hk).imp id .inr
end
set_option maxHeartbeats 2000000 in
theorem rcut {B rb : Nat} {R : Rs} (w : World) (h : RefAt B w rb R) (n : List UInt8) (hl : R.ps.length ≤ 1000) : Calls Try.prog 61 #[ptr rb, str n] w fun e w' => e = .returned (.tuple #[]) ∧ ∃ lv, RStep B rb w w' R { R with lv := lv, ps := delP n R.ps } := by
  obtain ⟨la, lc, hlv⟩ := h.slice
  have hst := hid (Mid.start h (Below.refl _ w))
  have H := hid h
  unfold ptr str
  clear h
  go_enter Try.func61, Try.ntmps61
  go_wp2_with fail
  go_loopw [4, 5] (fun lv iv wr => ∃ (k : Nat) (a : Option Addr) (c : Nat), k ≤ R.ps.length ∧ iv = .int .i64 k ∧ lv = .slice a (delP n (R.ps.take k)).length c ∧ Mid B rb w wr R (.slice a (delP n (R.ps.take k)).length c) (delP n (R.ps.take k))) (fun _ iv _ => R.ps.length - (intOf iv).toNat)
  case atStart => exact ⟨0, none, 0, by omega, rfl, rfl, hst.out⟩
  case round =>
    obtain ⟨k, a, c, hk, rfl, rfl, hm⟩ := hrel
    have c0 : wr.cell? ⟨rb, 0, none⟩ = some (.slice la R.ps.length lc) := by rw [cell_of hm.ref.cell, hlv]; rfl
    replace hm := hid hm
    clear hst
    by_cases hlt : k < R.ps.length
    · have hlt' : (k : Int) < (R.ps.length : Int) := by omega
      obtain ⟨p, hp⟩ : ∃ p, R.ps[k]? = some p := ⟨_, List.getElem?_eq_getElem hlt⟩
      obtain ⟨lb, lc', e, k0, k1, k2, _, _⟩ := hm.out.ref.at hp
      rw [hlv] at e
      injection e with e1 e2 e3
      subst e1 e3
      obtain ⟨pa, pc, hp2⟩ := row_slice (H.out.els p (List.mem_of_getElem? hp))
      have hdt := delP_take n R.ps k p hp
      rw [hp2] at k1
      by_cases hne : p.1.name = n
      · have hne' : (p.1.name == n) = true := by simpa using hne
        rw [hne', if_pos rfl] at hdt
        have hm' := hm.out
        rw [← hdt] at hm'
        replace hm' := hid hm'
        replace hdt := hid hdt
        clear e2 hne
        unfold str at k0
        go_wp2
        exact ⟨⟨k + 1, a, c, by omega, by go_num, by rw [hdt.out], hm'.out⟩, by simp [intOf]; omega⟩
      · have hne' : (p.1.name == n) = false := by simpa using hne
        rw [hne', if_neg (by decide)] at hdt
        have hlen : (delP n (R.ps.take k)).length ≤ 1000 := by
          have := List.length_filter_le (fun p : Ent × Value => !(p.1.name == n)) (R.ps.take k)
          unfold delP
          simp at this
          omega
        obtain ⟨a', c', w', hrun, hm2, _⟩ := hm.out.push H.out p.1 pa p.1.b.length pc (by omega)
        have ep : (p.1, Value.slice pa p.1.b.length pc) = p := by rw [← hp2]
        rw [ep, ← hdt] at hm2
        have hl2 : (delP n (R.ps.take (k + 1))).length = (delP n (R.ps.take k)).length + 1 := by rw [hdt]; simp
        rw [← hl2] at hrun hm2
        replace hm2 := hid hm2
        replace hl2 := hid hl2
        replace hdt := hid hdt
        clear e2 hne ep hm hp2 hp
        unfold str at k0 hrun
        go_wp2_with (at_builtin; refine wpList_append_run _ rfl _ _ 65 rfl _ _ _ _ rfl rfl hrun ?_)
        exact ⟨⟨k + 1, a', c', by omega, by go_num, rfl, hm2.out⟩, by simp [intOf]; omega⟩
    · have hge : ¬ (k : Int) < (R.ps.length : Int) := by omega
      obtain rfl : k = R.ps.length := by omega
      rw [List.take_length] at hm ⊢
      have fz := frozen_of hm.out.ref.cell 0
      have fin := hm.out.lay H.out (fun p hp => H.out.els p (List.mem_filter.1 hp).1) (fun _ => False) (fun p hp k hk => .inl (.inr (.inr ⟨p, (List.mem_filter.1 hp).1, hk⟩)))
      obtain ⟨q1, q2, q3, q4⟩ := fin
      have st : Hid (RStep B rb w (wr.setCell ⟨rb, 0, none⟩ (.slice a (delP n R.ps).length c)) R { R with lv := .slice a (delP n R.ps).length c, ps := delP n R.ps }) := ⟨q1, q2, fun k hk => (q3 k hk).imp id fun e => e.elim id False.elim, q4⟩
      clear q1 q2 q3 q4 hm
      go_wp2
      go_end0
      exact ⟨rfl, _, st.out⟩
end Go.Proofs.Ytinnegkkfaaceaa
