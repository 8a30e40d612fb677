/- Contracts of put (a name given to a file) and of cut (a file cut). -/
import Derived.Test.YtinnegkkfaaceaaW4
namespace Go.Proofs.Ytinnegkkfaaceaa
open Go.RowKit Go.Maps Go.MapKept Go.Shelf

theorem undrew {w w1 : World} (h : Below w.drew.heap.size w.drew w1) : Below w.heap.size w w1 := ⟨h.os, h.tape, h.output, h.size, h.block⟩
/-- what the map is, behind a name given. -/
def MapPut (w' : World) (g : Gs) (n : List UInt8) (fb : Nat) : Prop := ∃ D k, MapOf D g.l ∧ Maps.Tidy D ∧ w'.ownsMap Try.prog 9 ptrR g.mb k (D.put (.string n) (.lit (.int .i64 fb)))
theorem store_run {B sb : Nat} {w : World} {g : Gs} (h : StoreAt B w sb g) {w1 : World} (hb : Below w.heap.size w w1) (n : List UInt8) (hn : n.length ≤ maxLen) (fb : Nat) :
    ∃ w', (Instr.mapUpdate 50 (.map (some g.mb)) (str n) (ptr fb)).run Try.prog w1 = .ok () w' ∧ MapPut w' g n fb ∧ Kept (· = g.mb) w w' := by
  obtain ⟨D, hD, hM⟩ := (h.below hb).map
  have hf := h.few
  obtain ⟨w', hrun, h1, h2⟩ := hD.update law Try.underlying50 (by unfold maxLen; omega) (keyAt n hn) (val := ptr fb) (d := .lit (.int .i64 fb)) (ps := []) rfl
  refine ⟨w', hrun, ⟨D, _, hM, hD.tidy law, h1⟩, ?_⟩
  exact (kept_of_below (F := (· = g.mb)) hb).trans (kept_of_grown (F := (· = g.mb)) h2 fun k e => by simpa using e.symm) fun k e => .inl e
set_option maxHeartbeats 1000000 in
theorem put_any {B sb : Nat} {g : Gs} (w : World) (h : StoreAt B w sb g) (n : List UInt8) (hn : n.length ≤ 1048576) (fb : Nat) :
    Calls Try.prog 50 #[ptr sb, str n, ptr fb] w fun e w' => e = .returned (.tuple #[]) ∧ MapPut w' g n fb ∧ Kept (· = g.mb) w w' := by
  have hcl := hid fun w => strClone w n hn
  have c0 : w.cell? ⟨sb, 0, none⟩ = some (.map (some g.mb)) := by rw [cell_of h.cell]; rfl
  have hh := hid h
  have hlt : sb < w.heap.size := lt_of_block h.cell
  have hn' : n.length ≤ maxLen := by unfold maxLen; omega
  unfold str ptr at *
  clear h
  go_enter Try.func50, Try.ntmps50
  go_wp2
  go_region_with (go_at_call 64; refine (hcl.out _).mono ?_; rintro e w1 ⟨rfl, hb⟩; have c1 : w1.cell? ⟨sb, 0, none⟩ = some (.map (some g.mb)) := (hb.cell (p := ⟨sb, 0, none⟩) (by simpa using hlt)).trans (by simpa using c0); obtain ⟨w2, hrun, hp, hk⟩ := store_run hh.out (w1 := w1) (undrew hb) n hn' fb; unfold str ptr at hrun; have hp := hid hp; have hk := hid hk; have hb := hid hb)
  all_goals (go_wp2; go_end0; exact ⟨rfl, hp.out, hk.out⟩)
/-- a file behind a cut, or behind whatever else turns it alone. -/
structure Turned (w w' : World) (f f' : Fg) : Prop where
  file : FileAt w' f'
  name : f'.name = f.name
  fb : f'.fb = f.fb
  kept : Kept (footF f) w w'
  row : ∀ k, f'.v.ownBlock = some k → f.v.ownBlock = some k ∨ w.heap.size ≤ k
theorem Turned.refl {w : World} {f : Fg} (h : FileAt w f) : Turned w w f f := ⟨h, rfl, rfl, Kept.refl _ _, fun _ hk => .inl hk⟩
theorem turned_bytes {w w1 : World} {f : Fg} (h : FileAt w f) (hk : Kept (footF f) w w1) (hc : w1.heap[f.fb]? = w.heap[f.fb]?) {b' : List UInt8} {v' : Value} (hrow : w1.ownsRow 0 5 1 v' b'.length (b'.map bv))
    (hv : ∀ k, v'.ownBlock = some k → f.v.ownBlock = some k ∨ w.heap.size ≤ k) (hbig : b'.length ≤ 1048576) {s' : Nat} (hs : s' ≤ b'.length) (x : Value) (hx : x = .int .i64 (s' : Int)) :
    Turned w ((w1.setCell ⟨f.fb, 0, none⟩ v').setCell ⟨f.fb, 1, none⟩ x) f { f with b := b', s := s', v := v' } := by
  subst hx
  have hc1 := hc.trans h.cell
  refine ⟨⟨?_, ?_, hs, hbig, h.nm⟩, rfl, rfl, ?_, hv⟩
  · rw [heap_set_at (heap_set_at hc1 _)]; rfl
  · refine ownsRow_block hrow fun k hk' => ?_
    have hne : k ≠ f.fb := by
      rcases hv k hk' with h1 | h1
      · exact h.fb_row h h1
      · have := lt_of_block h.cell; omega
    rw [heap_set _ _ _ _ _ hne, heap_set _ _ _ _ _ hne]
  · exact hk.trans ((kept_set (F := footF f) w1 f.fb 0 _ (.inl rfl)).trans (kept_set (F := footF f) _ f.fb 1 _ (.inl rfl)) fun _ e => .inl e) fun _ e => .inl e
theorem turned_bytes0 {w w1 : World} {f : Fg} (h : FileAt w f) (hk : Kept (footF f) w w1) (hc : w1.heap[f.fb]? = w.heap[f.fb]?) {b' : List UInt8} {v' : Value} (hrow : w1.ownsRow 0 5 1 v' b'.length (b'.map bv))
    (hv : ∀ k, v'.ownBlock = some k → f.v.ownBlock = some k ∨ w.heap.size ≤ k) (hbig : b'.length ≤ 1048576) (hs : f.s ≤ b'.length) :
    Turned w (w1.setCell ⟨f.fb, 0, none⟩ v') f { f with b := b', v := v' } := by
  have hc1 := hc.trans h.cell
  refine ⟨⟨?_, ?_, hs, hbig, h.nm⟩, rfl, rfl, ?_, hv⟩
  · rw [heap_set_at hc1 _]; rfl
  · refine ownsRow_block hrow fun k hk' => ?_
    have hne : k ≠ f.fb := by
      rcases hv k hk' with h1 | h1
      · exact h.fb_row h h1
      · have := lt_of_block h.cell; omega
    rw [heap_set _ _ _ _ _ hne]
  · exact hk.trans (kept_set (F := footF f) w1 f.fb 0 _ (.inl rfl)) fun _ e => .inl e
theorem turned_sync {w : World} {f : Fg} (h : FileAt w f) {s' : Nat} (hs : s' ≤ f.b.length) (x : Value) (hx : x = .int .i64 (s' : Int)) :
    Turned w (w.setCell ⟨f.fb, 1, none⟩ x) f { f with s := s' } := by
  subst hx
  refine ⟨⟨?_, ?_, hs, h.big, h.nm⟩, rfl, rfl, kept_set (F := footF f) w f.fb 1 _ (.inl rfl), fun _ hk => .inl hk⟩
  · rw [heap_set_at h.cell _]; rfl
  · exact ownsRow_block h.row fun k hk' => heap_set _ _ _ _ _ (h.fb_row h hk')
set_option maxHeartbeats 1000000 in
theorem cut_less (w : World) {f : Fg} (h : FileAt w f) (n : Nat) (hn : n < f.b.length) :
    Calls Try.prog 54 #[ptr f.fb, .int .i64 (n : Int)] w fun e w' => e = .returned (.tuple #[]) ∧ ∃ v', Turned w w' f { f with b := f.b.take n, s := min f.s n, v := v' } := by
  have c0 : w.cell? ⟨f.fb, 0, none⟩ = some f.v := by rw [cell_of h.cell]; rfl
  have c1 : w.cell? ⟨f.fb, 1, none⟩ = some (.int .i64 (f.s : Int)) := by rw [cell_of h.cell]; rfl
  have z0 : w.frozen? ⟨f.fb, 0, none⟩ = false := frozen_of h.cell 0
  have z1 : w.frozen? ⟨f.fb, 1, none⟩ = false := frozen_of h.cell 1
  have hlt : f.fb < w.heap.size := lt_of_block h.cell
  have hbig := h.big
  have hsyn := h.syn
  rcases row_form h.row with ⟨_, hb⟩ | ⟨g, c, hv, hc1, hc2⟩
  · rw [hb] at hn; simp at hn
  rw [hv] at c0
  have hcl : Hid (Calls Try.prog 42 #[.slice (some ⟨g, 0, none⟩) n c] w fun e w' => ∃ v', e = .returned v' ∧ w'.ownsRow w.heap.size 5 1 v' (f.b.take n).length ((f.b.take n).map bv) ∧ Below w.heap.size w w') := by
    refine clone_part (by simp; omega) (by simp; omega) fun i hi => ?_
    have hi' : i < n := by simp at hi; omega
    rw [row_cells h.row hv i (by omega)]
    simp [ints, List.getD, hi', List.getElem?_map]
  have hh := hid h
  obtain ⟨nm, bs, s, fb, v⟩ := f
  simp only at *
  have hn' : (n : Int) < (bs.length : Int) := by omega
  unfold maxLen at hc2
  unfold ptr
  clear h hv
  go_enter Try.func54, Try.ntmps54
  go_wp2_with (go_at_call 42; refine hcl.out.mono ?_; rintro e w1 ⟨v', rfl, hown, hb⟩; obtain ⟨av, cv, rfl⟩ := row_slice hown; have d0 : w1.cell? ⟨fb, 0, none⟩ = some (.slice (some ⟨g, 0, none⟩) bs.length c) := (hb.cell (p := ⟨fb, 0, none⟩) hlt).trans c0; have d1 : w1.cell? ⟨fb, 1, none⟩ = some (.int .i64 (s : Int)) := (hb.cell (p := ⟨fb, 1, none⟩) hlt).trans c1; have y0 : w1.frozen? ⟨fb, 0, none⟩ = false := (hb.frozen (p := ⟨fb, 0, none⟩) hlt).trans z0; have y1 : w1.frozen? ⟨fb, 1, none⟩ = false := (hb.frozen (p := ⟨fb, 1, none⟩) hlt).trans z1; have hown := hid hown; have hb := hid hb)
  go_end0
  refine ⟨rfl, .slice av (List.take n bs).length cv, ?_⟩
  have hb' := hb.out
  have e := turned_bytes hh.out (kept_of_below hb') (hb'.block fb hlt) (b' := List.take n bs) (v' := .slice av (List.take n bs).length cv) (ownsRow_base hown.out fun _ _ => Nat.zero_le _) (fun k hk => .inr (hown.out.lt k hk).1) (by simp; omega) (s' := min s n) (by simp; omega) (.int .i64 (min ↑s ↑n)) (congrArg (Value.int .i64) (by omega))
  simpa using e
set_option maxHeartbeats 1000000 in
theorem cut_whole (w : World) {f : Fg} (h : FileAt w f) :
    Calls Try.prog 54 #[ptr f.fb, .int .i64 (f.b.length : Int)] w fun e w' => e = .returned (.tuple #[]) ∧ Turned w w' f f := by
  have c0 : w.cell? ⟨f.fb, 0, none⟩ = some f.v := by rw [cell_of h.cell]; rfl
  have c1 : w.cell? ⟨f.fb, 1, none⟩ = some (.int .i64 (f.s : Int)) := by rw [cell_of h.cell]; rfl
  have z1 : w.frozen? ⟨f.fb, 1, none⟩ = false := frozen_of h.cell 1
  have hbig := h.big
  have hsyn := h.syn
  obtain ⟨av, cv, hv⟩ := row_slice h.row
  rw [hv] at c0
  have hh := hid h
  obtain ⟨nm, bs, s, fb, v⟩ := f
  simp only at *
  unfold ptr
  clear h hv
  go_enter Try.func54, Try.ntmps54
  go_wp2
  go_end0
  refine ⟨rfl, ?_⟩
  have e := turned_sync hh.out (s' := s) hsyn (.int .i64 (min ↑s ↑bs.length)) (congrArg (Value.int .i64) (by omega))
  simpa using e
end Go.Proofs.Ytinnegkkfaaceaa
