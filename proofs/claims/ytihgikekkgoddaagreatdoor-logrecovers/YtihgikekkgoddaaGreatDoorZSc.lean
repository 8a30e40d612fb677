/- Joined: SW4 SW5 SW6 SW7 SW8 SW9 SAbs. -/
import Derived.Test.YtihgikekkgoddaaGreatDoorZSa
import Derived.Test.YtihgikekkgoddaaGreatDoorZSb
import Derived.Deep.RegionWith
import Derived.RegionTactic
import Derived.Deep.RegionLaw
/- Contracts of the functions that turn one file, and of put: a file's bytes cloned, a file cut, a name given to a file. -/
namespace Go.Proofs.YtihgikekkgoddaaGreatDoor.Sto
open Go.RowKit Go.Maps Go.MapKept Go.Shelf

def ints (b : List UInt8) : List Int := b.map fun c => (c.toNat : Int)
theorem ints_bv (b : List UInt8) : (ints b).map (Value.int .u8) = b.map bv := by
  simp [ints, bv]
theorem ints_at (b : List UInt8) (i : Nat) : Value.int .u8 ((ints b).getD i 0) = (b.map bv).getD i (.int .u8 0) := by
  by_cases h : i < b.length
  · simp [ints, bv, List.getD, h]
  · simp [ints, List.getD, Nat.le_of_not_lt h]
theorem row_cells {w : World} {base : Nat} {v : Value} {b : List UInt8} (h : w.ownsRow base 5 1 v b.length (b.map bv)) {g n c : Nat} (hv : v = .slice (some ⟨g, 0, none⟩) n c) (i : Nat) (hi : i < b.length) : w.cell? ⟨g, i, none⟩ = some (.int .u8 ((ints b).getD i 0)) := by
  have := h.cells (g := g) (by rw [hv]; rfl) i (.int .u8 ((ints b).getD i 0)) (by rw [ints_at]; simp [List.getD, hi])
  rwa [Addr.add_lit, Nat.zero_add] at this
/-- a file's slice: nil, or a row of its own. -/
theorem row_form {w : World} {base : Nat} {v : Value} {b : List UInt8} (h : w.ownsRow base 5 1 v b.length (b.map bv)) : (v = .slice none 0 0 ∧ b = []) ∨ ∃ g c, v = .slice (some ⟨g, 0, none⟩) b.length c ∧ b.length ≤ c ∧ c ≤ maxLen := by
  rcases h.2 with ⟨rfl, h0⟩ | ⟨g, cap, cur, rfl, _, _, h1, h2, _⟩
  · exact .inl ⟨rfl, List.eq_nil_of_length_eq_zero h0⟩
  · exact .inr ⟨g, cap, rfl, h1, h2⟩
theorem row_slice {w : World} {base : Nat} {e : TypeId} {s : Nat} {v : Value} {n : Nat} {xs : List Value} (h : w.ownsRow base e s v n xs) : ∃ a c, v = .slice a n c := by
  rcases h.2 with ⟨rfl, h0⟩ | ⟨g, cap, cur, rfl, _⟩
  · exact ⟨none, 0, by rw [h0]⟩
  · exact ⟨_, cap, rfl⟩
theorem ownsRow_base {w : World} {base base' : Nat} {e : TypeId} {s : Nat} {v : Value} {n : Nat} {xs : List Value} (h : w.ownsRow base e s v n xs) (hb : ∀ k, v.ownBlock = some k → base' ≤ k) : w.ownsRow base' e s v n xs := by
  refine ⟨h.1, ?_⟩
  rcases h.2 with hn | ⟨g, cap, cur, rfl, h1, h2, rest⟩
  · exact .inl hn
  · exact .inr ⟨g, cap, cur, rfl, hb g rfl, h2, rest⟩
theorem clone_part {w : World} {g n c : Nat} {b : List UInt8} (hb : b.length ≤ 1048576) (hn : b.length = n) (hc : ∀ i, i < b.length → w.cell? ⟨g, i, none⟩ = some (.int .u8 ((ints b).getD i 0))) :
    Calls Tryz.prog 78 #[.slice (some ⟨g, 0, none⟩) n c] w fun e w' => ∃ v', e = .returned v' ∧ w'.ownsRow w.heap.size 5 1 v' b.length (b.map bv) ∧ Below w.heap.size w w' := by
  subst hn
  refine (Tryz.bytes_Clone_at ⟨g, 0, none⟩ b.length c (ints b) w (by simp [ints]) (by omega) fun i hi => ?_).mono ?_
  · rw [Addr.add_lit, Nat.zero_add]; exact hc i hi
  · rintro e w' ⟨v', rfl, h1, _, h2⟩
    rw [ints_bv] at h1
    exact ⟨v', rfl, h1, h2⟩
theorem clone_row {w : World} {base : Nat} {v : Value} {b : List UInt8} (h : w.ownsRow base 5 1 v b.length (b.map bv)) (hb : b.length ≤ 1048576) :
    Calls Tryz.prog 78 #[v] w fun e w' => ∃ v', e = .returned v' ∧ w'.ownsRow w.heap.size 5 1 v' b.length (b.map bv) ∧ Below w.heap.size w w' := by
  rcases row_form h with ⟨rfl, rfl⟩ | ⟨g, c, rfl, h1, h2⟩
  · refine (Tryz.bytes_Clone_nil 0 0 w).mono ?_
    rintro e w' ⟨rfl, rfl⟩
    exact ⟨_, rfl, World.ownsRow_nil _ _ _ _, Below.refl _ _⟩
  · exact clone_part hb rfl (row_cells h rfl)
set_option maxHeartbeats 400000 in
theorem strClone (w : World) (n : List UInt8) (hn : n.length ≤ 1048576) :
    Calls Tryz.prog 23 #[str n] w fun e w' => e = .returned (str n) ∧ Below w.heap.size w w' := by
  have hc := hid (Tryz.stringslite_Clone ⟨n.toArray⟩ w (by show n.toArray.size ≤ _; simp; omega))
  unfold str
  go_enter Tryz.func23, Tryz.ntmps23
  go_wp2_with (go_at_call 50; refine hc.out.mono ?_; rintro e w' ⟨rfl, hb⟩; have hb := hid hb)
  go_ret
  exact ⟨rfl, hb.out⟩
end Go.Proofs.YtihgikekkgoddaaGreatDoor.Sto
/- Contracts of put (a name given to a file) and of cut (a file cut). -/
namespace Go.Proofs.YtihgikekkgoddaaGreatDoor.Sto
open Go.RowKit Go.Maps Go.MapKept Go.Shelf

theorem undrew {w w1 : World} (h : Below w.drew.heap.size w.drew w1) : Below w.heap.size w w1 := ⟨h.os, h.tape, h.output, h.size, h.block⟩
/-- what the map is, behind a name given. -/
def MapPut (w' : World) (g : Gs) (n : List UInt8) (fb : Nat) : Prop := ∃ D k, MapOf D g.l ∧ Maps.Tidy D ∧ w'.ownsMap Tryz.prog 9 ptrR g.mb k (D.put (.string n) (.lit (.int .i64 fb)))
theorem store_run {B sb : Nat} {w : World} {g : Gs} (h : StoreAt B w sb g) {w1 : World} (hb : Below w.heap.size w w1) (n : List UInt8) (hn : n.length ≤ maxLen) (fb : Nat) :
    ∃ w', (Instr.mapUpdate 29 (.map (some g.mb)) (str n) (ptr fb)).run Tryz.prog w1 = .ok () w' ∧ MapPut w' g n fb ∧ Kept (· = g.mb) w w' := by
  obtain ⟨D, hD, hM⟩ := (h.below hb).map
  have hf := h.few
  obtain ⟨w', hrun, h1, h2⟩ := hD.update law Tryz.underlying29 (by unfold maxLen; omega) (keyAt n hn) (val := ptr fb) (d := .lit (.int .i64 fb)) (ps := []) rfl
  refine ⟨w', hrun, ⟨D, _, hM, hD.tidy law, h1⟩, ?_⟩
  exact (kept_of_below (F := (· = g.mb)) hb).trans (kept_of_grown (F := (· = g.mb)) h2 fun k e => by simpa using e.symm) fun k e => .inl e
set_option maxHeartbeats 1000000 in
theorem put_any {B sb : Nat} {g : Gs} (w : World) (h : StoreAt B w sb g) (n : List UInt8) (hn : n.length ≤ 1048576) (fb : Nat) :
    Calls Tryz.prog 64 #[ptr sb, str n, ptr fb] w fun e w' => e = .returned (.tuple #[]) ∧ MapPut w' g n fb ∧ Kept (· = g.mb) w w' := by
  have hcl := hid fun w => strClone w n hn
  have c0 : w.cell? ⟨sb, 0, none⟩ = some (.map (some g.mb)) := by rw [cell_of h.cell]; rfl
  have hh := hid h
  have hlt : sb < w.heap.size := lt_of_block h.cell
  have hn' : n.length ≤ maxLen := by unfold maxLen; omega
  unfold str ptr at *
  clear h
  go_enter Tryz.func64, Tryz.ntmps64
  go_wp2
  go_region_with (go_at_call 23; refine (hcl.out _).mono ?_; rintro e w1 ⟨rfl, hb⟩; have c1 : w1.cell? ⟨sb, 0, none⟩ = some (.map (some g.mb)) := (hb.cell (p := ⟨sb, 0, none⟩) (by simpa using hlt)).trans (by simpa using c0); obtain ⟨w2, hrun, hp, hk⟩ := store_run hh.out (w1 := w1) (undrew hb) n hn' fb; unfold str ptr at hrun; have hp := hid hp; have hk := hid hk; have hb := hid hb)
  all_goals (go_wp2; go_end0; exact ⟨rfl, hp.out, hk.out⟩)
/-- a file behind a cut, or behind whatever else turns it alone. -/
structure Turned (w w' : World) (f f' : Fg) : Prop where
  file : FileAt w' f'
  name : f'.name = f.name
  fb : f'.fb = f.fb
  kept : Kept (footF f) w w'
  row : ∀ k, f'.v.ownBlock = some k → f.v.ownBlock = some k ∨ w.heap.size ≤ k
theorem Turned.refl {w : World} {f : Fg} (h : FileAt w f) : Turned w w f f := ⟨h, rfl, rfl, Kept.refl _ _, fun _ hk => .inl hk⟩
theorem turned_bytes {w w1 : World} {f : Fg} (h : FileAt w f) (hk : Kept (footF f) w w1) (hc : w1.heap[f.fb]? = w.heap[f.fb]?) {b' : List UInt8} {v' : Value} (hrow : w1.ownsRow 0 5 1 v' b'.length (b'.map bv))
    (hv : ∀ k, v'.ownBlock = some k → f.v.ownBlock = some k ∨ w.heap.size ≤ k) (hbig : b'.length ≤ 1048576) {s' : Nat} (hs : s' ≤ b'.length) (x : Value) (hx : x = .int .i64 (s' : Int)) :
    Turned w ((w1.setCell ⟨f.fb, 0, none⟩ v').setCell ⟨f.fb, 1, none⟩ x) f { f with b := b', s := s', v := v' } := by
  subst hx
  have hc1 := hc.trans h.cell
  refine ⟨⟨?_, ?_, hs, hbig, h.nm⟩, rfl, rfl, ?_, hv⟩
  · rw [heap_set_at (heap_set_at hc1 _)]; rfl
  · refine ownsRow_block hrow fun k hk' => ?_
    have hne : k ≠ f.fb := by
      rcases hv k hk' with h1 | h1
      · exact h.fb_row h h1
      · have := lt_of_block h.cell; omega
    rw [heap_set _ _ _ _ _ hne, heap_set _ _ _ _ _ hne]
  · exact hk.trans ((kept_set (F := footF f) w1 f.fb 0 _ (.inl rfl)).trans (kept_set (F := footF f) _ f.fb 1 _ (.inl rfl)) fun _ e => .inl e) fun _ e => .inl e
theorem turned_bytes0 {w w1 : World} {f : Fg} (h : FileAt w f) (hk : Kept (footF f) w w1) (hc : w1.heap[f.fb]? = w.heap[f.fb]?) {b' : List UInt8} {v' : Value} (hrow : w1.ownsRow 0 5 1 v' b'.length (b'.map bv))
    (hv : ∀ k, v'.ownBlock = some k → f.v.ownBlock = some k ∨ w.heap.size ≤ k) (hbig : b'.length ≤ 1048576) (hs : f.s ≤ b'.length) :
    Turned w (w1.setCell ⟨f.fb, 0, none⟩ v') f { f with b := b', v := v' } := by
  have hc1 := hc.trans h.cell
  refine ⟨⟨?_, ?_, hs, hbig, h.nm⟩, rfl, rfl, ?_, hv⟩
  · rw [heap_set_at hc1 _]; rfl
  · refine ownsRow_block hrow fun k hk' => ?_
    have hne : k ≠ f.fb := by
      rcases hv k hk' with h1 | h1
      · exact h.fb_row h h1
      · have := lt_of_block h.cell; omega
    rw [heap_set _ _ _ _ _ hne]
  · exact hk.trans (kept_set (F := footF f) w1 f.fb 0 _ (.inl rfl)) fun _ e => .inl e
theorem turned_sync {w : World} {f : Fg} (h : FileAt w f) {s' : Nat} (hs : s' ≤ f.b.length) (x : Value) (hx : x = .int .i64 (s' : Int)) :
    Turned w (w.setCell ⟨f.fb, 1, none⟩ x) f { f with s := s' } := by
  subst hx
  refine ⟨⟨?_, ?_, hs, h.big, h.nm⟩, rfl, rfl, kept_set (F := footF f) w f.fb 1 _ (.inl rfl), fun _ hk => .inl hk⟩
  · rw [heap_set_at h.cell _]; rfl
  · exact ownsRow_block h.row fun k hk' => heap_set _ _ _ _ _ (h.fb_row h hk')
set_option maxHeartbeats 1000000 in
theorem cut_less (w : World) {f : Fg} (h : FileAt w f) (n : Nat) (hn : n < f.b.length) :
    Calls Tryz.prog 46 #[ptr f.fb, .int .i64 (n : Int)] w fun e w' => e = .returned (.tuple #[]) ∧ ∃ v', Turned w w' f { f with b := f.b.take n, s := min f.s n, v := v' } := by
  have c0 : w.cell? ⟨f.fb, 0, none⟩ = some f.v := by rw [cell_of h.cell]; rfl
  have c1 : w.cell? ⟨f.fb, 1, none⟩ = some (.int .i64 (f.s : Int)) := by rw [cell_of h.cell]; rfl
  have z0 : w.frozen? ⟨f.fb, 0, none⟩ = false := frozen_of h.cell 0
  have z1 : w.frozen? ⟨f.fb, 1, none⟩ = false := frozen_of h.cell 1
  have hlt : f.fb < w.heap.size := lt_of_block h.cell
  have hbig := h.big
  have hsyn := h.syn
  rcases row_form h.row with ⟨_, hb⟩ | ⟨g, c, hv, hc1, hc2⟩
  · rw [hb] at hn; simp at hn
  rw [hv] at c0
  have hcl : Hid (Calls Tryz.prog 78 #[.slice (some ⟨g, 0, none⟩) n c] w fun e w' => ∃ v', e = .returned v' ∧ w'.ownsRow w.heap.size 5 1 v' (f.b.take n).length ((f.b.take n).map bv) ∧ Below w.heap.size w w') := by
    refine clone_part (by simp; omega) (by simp; omega) fun i hi => ?_
    have hi' : i < n := by simp at hi; omega
    rw [row_cells h.row hv i (by omega)]
    simp [ints, List.getD, hi', List.getElem?_map]
  have hh := hid h
  obtain ⟨nm, bs, s, fb, v⟩ := f
  simp only at *
  have hn' : (n : Int) < (bs.length : Int) := by omega
  unfold maxLen at hc2
  unfold ptr
  clear h hv
  go_enter Tryz.func46, Tryz.ntmps46
  go_wp2_with (go_at_call 78; refine hcl.out.mono ?_; rintro e w1 ⟨v', rfl, hown, hb⟩; obtain ⟨av, cv, rfl⟩ := row_slice hown; have d0 : w1.cell? ⟨fb, 0, none⟩ = some (.slice (some ⟨g, 0, none⟩) bs.length c) := (hb.cell (p := ⟨fb, 0, none⟩) hlt).trans c0; have d1 : w1.cell? ⟨fb, 1, none⟩ = some (.int .i64 (s : Int)) := (hb.cell (p := ⟨fb, 1, none⟩) hlt).trans c1; have y0 : w1.frozen? ⟨fb, 0, none⟩ = false := (hb.frozen (p := ⟨fb, 0, none⟩) hlt).trans z0; have y1 : w1.frozen? ⟨fb, 1, none⟩ = false := (hb.frozen (p := ⟨fb, 1, none⟩) hlt).trans z1; have hown := hid hown; have hb := hid hb)
  go_end0
  refine ⟨rfl, .slice av (List.take n bs).length cv, ?_⟩
  have hb' := hb.out
  have e := turned_bytes hh.out (kept_of_below hb') (hb'.block fb hlt) (b' := List.take n bs) (v' := .slice av (List.take n bs).length cv) (ownsRow_base hown.out fun _ _ => Nat.zero_le _) (fun k hk => .inr (hown.out.lt k hk).1) (by simp; omega) (s' := min s n) (by simp; omega) (.int .i64 (min ↑s ↑n)) (congrArg (Value.int .i64) (by omega))
  simpa using e
set_option maxHeartbeats 1000000 in
theorem cut_whole (w : World) {f : Fg} (h : FileAt w f) :
    Calls Tryz.prog 46 #[ptr f.fb, .int .i64 (f.b.length : Int)] w fun e w' => e = .returned (.tuple #[]) ∧ Turned w w' f f := by
  have c0 : w.cell? ⟨f.fb, 0, none⟩ = some f.v := by rw [cell_of h.cell]; rfl
  have c1 : w.cell? ⟨f.fb, 1, none⟩ = some (.int .i64 (f.s : Int)) := by rw [cell_of h.cell]; rfl
  have z1 : w.frozen? ⟨f.fb, 1, none⟩ = false := frozen_of h.cell 1
  have hbig := h.big
  have hsyn := h.syn
  obtain ⟨av, cv, hv⟩ := row_slice h.row
  rw [hv] at c0
  have hh := hid h
  obtain ⟨nm, bs, s, fb, v⟩ := f
  simp only at *
  unfold ptr
  clear h hv
  go_enter Tryz.func46, Tryz.ntmps46
  go_wp2
  go_end0
  refine ⟨rfl, ?_⟩
  have e := turned_sync hh.out (s' := s) hsyn (.int .i64 (min ↑s ↑bs.length)) (congrArg (Value.int .i64) (by omega))
  simpa using e
end Go.Proofs.YtihgikekkgoddaaGreatDoor.Sto
/- Contracts of the functions that the store's calls hand to find: Size's, Synced's, Read's, Sync's, Truncate's, Remove's, Rename's. -/
namespace Go.Proofs.YtihgikekkgoddaaGreatDoor.Sto
open Go.RowKit Go.Maps Go.MapKept Go.Shelf

set_option maxHeartbeats 400000 in
theorem size1 (w : World) {f : Fg} (h : FileAt w f) : Calls Tryz.prog 49 #[ptr f.fb] w fun e w' => e = .returned (.int .i64 (f.b.length : Int)) ∧ w' = w := by
  obtain ⟨av, cv, hv⟩ := row_slice h.row
  have c0 : w.cell? ⟨f.fb, 0, none⟩ = some (.slice av f.b.length cv) := by rw [cell_of h.cell, hv]; rfl
  unfold ptr
  clear h hv
  go_enter Tryz.func49, Tryz.ntmps49
  go_wp2
  go_ret
  exact ⟨rfl, rfl⟩
set_option maxHeartbeats 400000 in
theorem read1 (w : World) {f : Fg} (h : FileAt w f) (b : Nat) (v : Value) (hc : w.heap[b]? = some (.cells #[v] 22)) (hv : ∃ a n c, v = .slice a n c) :
    Calls Tryz.prog 84 #[ptr f.fb, ptr b] w fun e w' => e = .returned (.int .i64 0) ∧ ∃ a c w1, w1.ownsRow w.heap.size 5 1 (.slice a f.b.length c) f.b.length (f.b.map bv) ∧ Below w.heap.size w w1 ∧ w' = w1.setCell ⟨b, 0, none⟩ (.slice a f.b.length c) := by
  have hcl := hid (clone_row h.row h.big)
  have c0 : w.cell? ⟨f.fb, 0, none⟩ = some f.v := by rw [cell_of h.cell]; rfl
  obtain ⟨av, cv, hv1⟩ := row_slice h.row
  rw [hv1] at hcl c0
  have hbl : b < w.heap.size := lt_of_block hc
  have e0 : w.cell? ⟨b, 0, none⟩ = some v := by rw [cell_of hc]; rfl
  have y0 : w.frozen? ⟨b, 0, none⟩ = false := frozen_of hc 0
  obtain ⟨oa, on, oc, rfl⟩ := hv
  unfold ptr
  clear h hv1 hc
  go_enter Tryz.func84, Tryz.ntmps84
  go_wp2_with (go_at_call 78; refine hcl.out.mono ?_; rintro e w1 ⟨v', rfl, hown, hb⟩; obtain ⟨a', c', rfl⟩ := row_slice hown; have d0 : w1.cell? ⟨b, 0, none⟩ = some (.slice oa on oc) := (hb.cell (p := ⟨b, 0, none⟩) hbl).trans e0; have x0 : w1.frozen? ⟨b, 0, none⟩ = false := (hb.frozen (p := ⟨b, 0, none⟩) hbl).trans y0; have hown := hid hown; have hb := hid hb)
  go_ret
  exact ⟨rfl, a', c', w1, hown.out, hb.out, rfl⟩
set_option maxHeartbeats 400000 in
theorem sync1 (w : World) {f : Fg} (h : FileAt w f) : Calls Tryz.prog 67 #[ptr f.fb] w fun e w' => e = .returned (.int .i64 0) ∧ Turned w w' f { f with s := f.b.length } := by
  obtain ⟨av, cv, hv⟩ := row_slice h.row
  have c0 : w.cell? ⟨f.fb, 0, none⟩ = some (.slice av f.b.length cv) := by rw [cell_of h.cell, hv]; rfl
  have c1 : w.cell? ⟨f.fb, 1, none⟩ = some (.int .i64 (f.s : Int)) := by rw [cell_of h.cell]; rfl
  have z1 : w.frozen? ⟨f.fb, 1, none⟩ = false := frozen_of h.cell 1
  have hh := hid h
  unfold ptr
  clear h hv
  go_enter Tryz.func67, Tryz.ntmps67
  go_wp2
  go_ret
  exact ⟨rfl, turned_sync hh.out (Nat.le_refl _) _ rfl⟩
set_option maxHeartbeats 1000000 in
theorem truncate1_bad (w : World) {f : Fg} (h : FileAt w f) (b : Nat) (n : Int) (hc : w.cell? ⟨b, 0, none⟩ = some (.int .i64 n)) (hn : n < 0 ∨ (f.b.length : Int) < n) :
    Calls Tryz.prog 87 #[ptr f.fb, ptr b] w fun e w' => e = .returned (.int .i64 2) ∧ ∃ q, w' = w.drewN q := by
  obtain ⟨av, cv, hv⟩ := row_slice h.row
  have c0 : w.cell? ⟨f.fb, 0, none⟩ = some (.slice av f.b.length cv) := by rw [cell_of h.cell, hv]; rfl
  unfold ptr
  clear h hv
  by_cases h0 : n < 0
  · have hd : decide (n < 0) = true := by simpa using h0
    go_enter Tryz.func87, Tryz.ntmps87
    go_wp2
    go_quiet (fail)
    go_wp2
    go_ret
    exact ⟨rfl, _, rfl⟩
  · have hd : decide (n < 0) = false := by simpa using h0
    have h1 : (f.b.length : Int) < n := by omega
    clear hn
    go_enter Tryz.func87, Tryz.ntmps87
    go_wp2
    go_quiet (fail)
    go_wp2
    go_ret
    exact ⟨rfl, _, rfl⟩
set_option maxHeartbeats 1000000 in
theorem truncate1 (w : World) {f : Fg} (h : FileAt w f) (b : Nat) (n : Nat) (hc : w.cell? ⟨b, 0, none⟩ = some (.int .i64 (n : Int))) (hn : n ≤ f.b.length) :
    Calls Tryz.prog 87 #[ptr f.fb, ptr b] w fun e w' => e = .returned (.int .i64 0) ∧ ∃ v', Turned w w' f { f with b := f.b.take n, s := min f.s n, v := v' } := by
  obtain ⟨av, cv, hv⟩ := row_slice h.row
  have c0 : w.cell? ⟨f.fb, 0, none⟩ = some (.slice av f.b.length cv) := by rw [cell_of h.cell, hv]; rfl
  have hcut : Hid (∀ q, Calls Tryz.prog 46 #[ptr f.fb, .int .i64 (n : Int)] (w.drewN q) fun e w' => e = .returned (.tuple #[]) ∧ ∃ v', Turned w w' f { f with b := f.b.take n, s := min f.s n, v := v' }) := by
    intro q
    have hq : FileAt (w.drewN q) f := h.keep fun _ _ => rfl
    have ht : ∀ {w' : World} {f' : Fg}, Turned (w.drewN q) w' f f' → Turned w w' f f' := fun ht => ⟨ht.file, ht.name, ht.fb, ⟨ht.kept.os, ht.kept.tape, ht.kept.output, ht.kept.size, ht.kept.block⟩, ht.row⟩
    by_cases hlt : n < f.b.length
    · refine (cut_less _ hq n hlt).mono ?_
      rintro e w' ⟨rfl, v', h1⟩
      exact ⟨rfl, v', ht h1⟩
    · obtain rfl : n = f.b.length := by omega
      refine (cut_whole _ hq).mono ?_
      rintro e w' ⟨rfl, h1⟩
      refine ⟨rfl, f.v, ?_⟩
      rw [List.take_length, Nat.min_eq_left h.syn]
      exact ht h1
  have hbig := h.big
  unfold ptr at hcut ⊢
  have hd : decide ((n : Int) < 0) = false := by simp
  have h1 : ¬ (f.b.length : Int) < (n : Int) := by omega
  clear h hv
  go_enter Tryz.func87, Tryz.ntmps87
  go_wp2
  go_quiet (fail)
  go_wp2_with (go_at_call 46; refine (hcut.out _).mono ?_; rintro e w1 ⟨rfl, v', ht⟩; have ht := hid ht)
  go_ret
  exact ⟨rfl, v', ht.out⟩
end Go.Proofs.YtihgikekkgoddaaGreatDoor.Sto
/- Contracts of the functions that Remove and Rename hand to find. -/
namespace Go.Proofs.YtihgikekkgoddaaGreatDoor.Sto
open Go.RowKit Go.Maps Go.MapKept Go.Shelf

def MapDel (w' : World) (g : Gs) (n : List UInt8) : Prop := ∃ D k, MapOf D g.l ∧ Maps.Tidy D ∧ w'.ownsMap Tryz.prog 9 ptrR g.mb k (D.del (.string n))
theorem drop_run {B sb : Nat} {w : World} {g : Gs} (h : StoreAt B w sb g) (n : List UInt8) (hn : n.length ≤ maxLen) :
    ∃ w', (∀ ty, (Builtin.delete_ #[29, 9] ty #[.map (some g.mb), str n]).run Tryz.prog w.drew = .ok (.tuple #[]) w') ∧ MapDel w' g n ∧ Kept (· = g.mb) w w' := by
  obtain ⟨D, hD, hM⟩ := h.map
  have hT := hD.tidy law
  obtain ⟨w', hrun, h1, h2⟩ := (show w.drew.ownsMap Tryz.prog 9 ptrR g.mb g.l.length _ from hD).drop law Tryz.underlying29 (keyAt n hn) 0
  refine ⟨w', fun ty => ?_, ⟨_, _, hM, hT, h1⟩, ?_⟩
  · have : (Builtin.delete_ #[29, 9] ty #[.map (some g.mb), str n]) = (Builtin.delete_ #[29, 9] 0 #[.map (some g.mb), str n]) := rfl
    rw [this]; exact hrun
  · have hg := h2.grown
    exact ⟨hg.os, hg.tape, hg.output, hg.size, fun k hk hne => hg.block k hk (by simpa using hne)⟩
set_option maxHeartbeats 1000000 in
theorem remove1 {B sb : Nat} {g : Gs} (w : World) (h : StoreAt B w sb g) (n : List UInt8) (hn : n.length ≤ maxLen) (a : Value) (cb nb : Nat) (hcb : w.cell? ⟨cb, 0, none⟩ = some (ptr sb)) (hnb : w.cell? ⟨nb, 0, none⟩ = some (str n)) :
    Calls Tryz.prog 83 #[a, ptr cb, ptr nb] w fun e w' => e = .returned (.int .i64 0) ∧ MapDel w' g n ∧ Kept (· = g.mb) w w' := by
  have c0 : w.cell? ⟨sb, 0, none⟩ = some (.map (some g.mb)) := by rw [cell_of h.cell]; rfl
  obtain ⟨w2, hrun, hp, hk⟩ := drop_run h n hn
  have hp := hid hp
  have hk := hid hk
  unfold ptr at hcb ⊢
  unfold str at hnb hrun
  clear h
  go_enter Tryz.func83, Tryz.ntmps83
  go_wp2
  go_region
  all_goals (go_wp2; go_ret; exact ⟨rfl, hp.out, hk.out⟩)
set_option maxHeartbeats 1000000 in
theorem rename1_bad (w : World) (n : List UInt8) (hn : n.length ≤ 4294967296) (hm : mayB n = false) (a c d : Value) (nb : Nat) (hnb : w.cell? ⟨nb, 0, none⟩ = some (str n)) :
    Calls Tryz.prog 95 #[a, ptr nb, c, d] w fun e w' => e = .returned (.int .i64 2) ∧ w' = w := by
  have hmb := mayBe_any w n hn
  rw [hm] at hmb
  have hmb := hid hmb
  unfold ptr
  unfold str at hnb hmb
  clear hm hn
  go_enter Tryz.func95, Tryz.ntmps95
  go_wp2_with (go_at_call 63; refine hmb.out.mono ?_; rintro e w' ⟨rfl, rfl⟩)
  go_ret
  exact ⟨rfl, rfl⟩
set_option maxHeartbeats 2000000 in
theorem rename1 {B sb : Nat} {g : Gs} (w : World) (h : StoreAt B w sb g) (o n : List UInt8) (hm : mayB n = true) {f : Fg} (hl : look o g.l = some f) (hB : B ≤ w.heap.size) (nb cb ob : Nat)
    (hnb : w.cell? ⟨nb, 0, none⟩ = some (str n)) (hcb : w.cell? ⟨cb, 0, none⟩ = some (ptr sb)) (hob : w.cell? ⟨ob, 0, none⟩ = some (str o)) :
    Calls Tryz.prog 95 #[ptr f.fb, ptr nb, ptr cb, ptr ob] w fun e w' => e = .returned (.int .i64 0) ∧ StoreAt B w' sb { g with l := put { f with name := n } (del o g.l) } ∧ Kept (· = g.mb) w w' := by
  obtain ⟨hf, rfl⟩ := look_some hl
  have hfile := h.files f hf
  have hn : 1 ≤ n.length ∧ n.length ≤ 32 := by simpa [mayB] using hm
  have hmb := mayBe_any w n (by omega)
  rw [hm] at hmb
  have hmb := hid hmb
  have c0 : w.cell? ⟨sb, 0, none⟩ = some (.map (some g.mb)) := by rw [cell_of h.cell]; rfl
  obtain ⟨w2, hrun, hp, hk⟩ := drop_run h f.name (by have := hfile.nm.2; unfold maxLen; omega)
  have h2 := h.mapDel hf hp hk
  have mbk : ∀ {b : Nat} {v : Value}, w.cell? ⟨b, 0, none⟩ = some v → w2.cell? ⟨b, 0, none⟩ = some v := by
    intro b v hv
    obtain ⟨D, hD, _⟩ := h.map
    obtain ⟨es, c, hmap⟩ := map_block hD
    have hne : b ≠ g.mb := by intro e; subst e; simp [World.cell?, hmap] at hv
    exact (World.cell?_of_block (a := ⟨b, 0, none⟩) (hk.block b (World.block_lt_of_cell? w ⟨b, 0, none⟩ hv) hne)).trans hv
  have hnb2 := mbk hnb
  have hcb2 := mbk hcb
  have hput := hid (put_any w2 h2 n (by omega) f.fb)
  have fin : Hid (∀ w3, MapPut w3 { g with l := del f.name g.l } n f.fb → Kept (· = g.mb) w2 w3 → StoreAt B w3 sb { g with l := put { f with name := n } (del f.name g.l) } ∧ Kept (· = g.mb) w w3) := by
    intro w3 hmp hk3
    refine ⟨?_, hk.trans hk3 fun _ e => .inl e⟩
    have hblk : ∀ k, footF f k → w2.heap[k]? = w.heap[k]? := fun k hk' => hk.block k (hfile.lt hk') (h.mb_f hf hk')
    have hfile2 : FileAt w2 { f with name := n } := by
      have := hfile.keep hblk
      exact ⟨this.cell, this.row, this.syn, this.big, hn⟩
    refine StoreAt.mapPut (f := { f with name := n }) h2 hfile2 (fun x hx hne => ?_) ?_ (fun k hk' => ?_) hmp hk3
    · obtain ⟨hx1, hx2⟩ := mem_del.1 hx
      exact h.apart f hf x hx1 (Ne.symm hx2)
    · have e1 := length_del h.rising hf rfl
      have e2 := length_ins { f with name := n } (del n (del f.name g.l))
      have e3 := List.length_filter_le (fun x : Fg => !(x.name == n)) (del f.name g.l)
      have e4 := h.few
      simp only [put] at *
      unfold del at e2 e3 ⊢
      unfold del at e1
      omega
    · exact h.base k (.inr (.inr ⟨f, hf, hk'⟩))
  unfold ptr at hcb hcb2 hput ⊢
  unfold str at hnb hnb2 hob hmb hrun hput
  clear h h2 hp hk mbk hfile hm hn
  go_enter Tryz.func95, Tryz.ntmps95
  go_wp2_with (go_at_call 63; refine hmb.out.mono ?_; rintro e w' ⟨rfl, rfl⟩)
  go_region
  all_goals go_wp2_with (go_at_call 64; refine hput.out.mono ?_; rintro e w3 ⟨rfl, hmp, hk3⟩; obtain ⟨q1, q2⟩ := fin.out w3 hmp hk3; have q1 := hid q1; have q2 := hid q2)
  all_goals (go_ret; exact ⟨rfl, q1.out, q2.out⟩)
end Go.Proofs.YtihgikekkgoddaaGreatDoor.Sto
/- Bytes that are handed in; what append makes of a file's bytes and of them; the function that Append hands to look. -/
namespace Go.Proofs.YtihgikekkgoddaaGreatDoor.Sto
open Go.RowKit Go.Maps Go.MapKept Go.Shelf

/-- a slice's value over bytes in memory. -/
def IsB (w : World) (v : Value) (bs : List UInt8) : Prop :=
  bs.length ≤ maxLen ∧ ∃ a c, v = .slice a bs.length c ∧ (bs = [] ∨ ∃ b off, a = some ⟨b, off, none⟩ ∧ ∀ i, i < bs.length → w.cell? ⟨b, off + i, none⟩ = some ((bs.map bv).getD i (.int .u8 0)))
theorem IsB.kept {w w' : World} {v : Value} {bs : List UInt8} (h : IsB w v bs) (hk : ∀ b o u, w.cell? ⟨b, o, none⟩ = some u → w'.cell? ⟨b, o, none⟩ = some u) : IsB w' v bs := by
  obtain ⟨hm, a, c, hv, hc⟩ := h
  refine ⟨hm, a, c, hv, ?_⟩
  rcases hc with hc | ⟨b, off, ha, hc⟩
  · exact .inl hc
  · exact .inr ⟨b, off, ha, fun i hi => hk _ _ _ (hc i hi)⟩
theorem IsB.below {w w' : World} {v : Value} {bs : List UInt8} (h : IsB w v bs) (hb : Below w.heap.size w w') : IsB w' v bs :=
  h.kept fun b o _ hu => (hb.cell (p := ⟨b, o, none⟩) (World.block_lt_of_cell? w ⟨b, o, none⟩ hu)).trans hu
theorem isB_row {w : World} {base : Nat} {v : Value} {b : List UInt8} (h : w.ownsRow base 5 1 v b.length (b.map bv)) : IsB w v b := by
  rcases row_form h with ⟨rfl, rfl⟩ | ⟨g, c, rfl, h1, h2⟩
  · exact ⟨by simp, none, 0, rfl, .inl rfl⟩
  · refine ⟨by omega, _, c, rfl, .inr ⟨g, 0, rfl, fun i hi => ?_⟩⟩
    rw [Nat.zero_add, row_cells h rfl i hi, ints_at]
theorem bytesInfo : (Tryz.prog.info? 5).map (fun i => (i.zero, i.size, i.bytes)) = some (some (.int .u8 0), 1, 1) := by kernel_rfl
theorem app_run {w : World} {base : Nat} {v v2 : Value} {b bs : List UInt8} (hr : w.ownsRow base 5 1 v b.length (b.map bv)) (h2 : IsB w v2 bs) (hl : b.length + bs.length ≤ 140737488355328) (hb : base ≤ w.heap.size) :
    ∃ a' c' w', (∀ ty, (Builtin.append_ #[22, 22] ty #[v, v2]).run Tryz.prog w = .ok (.slice a' (b.length + bs.length) c') w') ∧ w'.ownsRow base 5 1 (.slice a' (b.length + bs.length) c') (b ++ bs).length ((b ++ bs).map bv) ∧ w.grownBy w' v.ownBlock ∧
      ((Value.slice a' (b.length + bs.length) c').ownBlock = v.ownBlock ∨ (Value.slice a' (b.length + bs.length) c').ownBlock = some w.heap.size) := by
  obtain ⟨i0, hi, hz0, hz1, hz2⟩ := info_parts bytesInfo
  have some_case : ∀ (ad : Addr) (c : Nat), v2 = .slice (some ad) bs.length c → (∀ j u, (bs.map bv)[j]? = some u → w.cell? (ad.add j) = some u) → ∃ a' c' w', (∀ ty, (Builtin.append_ #[22, 22] ty #[v, v2]).run Tryz.prog w = .ok (.slice a' (b.length + bs.length) c') w') ∧ w'.ownsRow base 5 1 (.slice a' (b.length + bs.length) c') (b ++ bs).length ((b ++ bs).map bv) ∧ w.grownBy w' v.ownBlock ∧
      ((Value.slice a' (b.length + bs.length) c').ownBlock = v.ownBlock ∨ (Value.slice a' (b.length + bs.length) c').ownBlock = some w.heap.size) := by
    intro ad c e hcells
    subst e
    obtain ⟨v', w', hrun, h3, h4, _, h5⟩ := run_append_own_at (P := Tryz.prog) w base 22 0 5 i0 (.int .u8 0) 1 1 Tryz.underlying22 hi hz0 hz1 hz2 rfl (by decide) v b.length (b.map bv) hr ad bs.length c (bs.map bv) (by simp) hcells (by intro u hu; obtain ⟨x, _, rfl⟩ := List.mem_map.1 hu; rfl) (by unfold maxLen; omega) (by omega) hb
    obtain ⟨a', c', rfl⟩ := row_slice h3
    refine ⟨a', c', w', fun ty => hrun, ?_, h4, h5⟩
    simpa using h3
  obtain ⟨hm, a, c, hv, hc⟩ := h2
  rcases hc with rfl | ⟨g, off, rfl, hc⟩
  · cases a with
    | some ad => exact some_case ad c hv (by simp)
    | none =>
      subst hv
      obtain ⟨av, cv, e⟩ := row_slice hr
      have hcap : b.length ≤ cv := by
        rcases row_form hr with ⟨e1, rfl⟩ | ⟨g, c', e1, h1, _⟩
        · simp
        · rw [e1] at e; cases e; exact h1
      have ht := Tryz.underlying22
      refine ⟨av, cv, w, fun ty => ?_, ?_, ⟨rfl, rfl, rfl, Nat.le_refl _, fun _ _ _ => rfl⟩, .inl ?_⟩
      · rw [e]
        cases av <;> simp [Builtin.append_, run_underlying ht, sizeOf, typeInfo, hi, Builtin.lenOf, Builtin.firstCells, loadCells, hcap, storeCells, Result.andThen]
      · rw [e] at hr; simpa using hr
      · rw [e]; simp
  · refine some_case ⟨g, off, none⟩ c hv fun j u hu => ?_
    have hj : j < bs.length := by have := (List.getElem?_eq_some_iff.1 hu).1; simpa using this
    rw [Addr.add_lit, hc j hj]
    simp [List.getD, hu]
/-- append, as one step of a region. -/
theorem step_append {P : Program} {ops : Array Oper} {o : Oper} {a : Act} {w : World} {K : Act → World → Prop} {Q : Exit → Act → World → Prop} {E : Prop}
    (hg : o.guard = none) (s x : Operand) (t : TypeId) (hop : o.op = Op.call { callee := Callee.builtin Builtin.append, args := #[s, x], argTypes := #[t, t] }) (v v2 v' : Value) (w' : World)
    (hs : a.eval s = v) (hx : a.eval x = v2) (hrun : ∀ ty, (Builtin.append_ #[t, t] ty #[v, v2]).run P w = .ok v' w') (hK : K (a.put o.dst v') w') :
    if Region.wanted o (yielded ops a.tmps) = true then Oper.wp P o a w K Q else E := by
  have hw : Region.wanted o (yielded ops a.tmps) = true := by simp [Region.wanted, hg]
  rw [if_pos hw]
  unfold Oper.wp
  simp [execOp, hop, resolve, invoke, builtin, hs, hx, hrun, Result.andThen]
  exact hK
end Go.Proofs.YtihgikekkgoddaaGreatDoor.Sto
/- Contracts of the function that Append hands to look. -/
namespace Go.Proofs.YtihgikekkgoddaaGreatDoor.Sto
open Go.RowKit Go.Maps Go.MapKept Go.Shelf

set_option maxHeartbeats 1000000 in
theorem append1_bad (w : World) (n : List UInt8) (hn : n.length ≤ 4294967296) (hm : mayB n = false) (nb : Nat) (c d : Value) (hnb : w.cell? ⟨nb, 0, none⟩ = some (str n)) :
    Calls Tryz.prog 62 #[.pointer none, ptr nb, c, d] w fun e w' => e = .returned (.int .i64 2) ∧ w' = w := by
  have hmb := mayBe_any w n hn
  rw [hm] at hmb
  have hmb := hid hmb
  unfold ptr
  unfold str at hnb hmb
  clear hm hn
  go_enter Tryz.func62, Tryz.ntmps62
  go_wp2_with (go_at_call 63; refine hmb.out.mono ?_; rintro e w' ⟨rfl, rfl⟩)
  go_ret
  exact ⟨rfl, rfl⟩
set_option maxHeartbeats 1000000 in
theorem append1_new_long (w : World) (n : List UInt8) (hm : mayB n = true) (nb bb : Nat) (d : Value) (hnb : w.cell? ⟨nb, 0, none⟩ = some (str n)) {v2 : Value} {bs : List UInt8} (h2 : IsB w v2 bs) (hbb : w.cell? ⟨bb, 0, none⟩ = some v2) (hl : 1048576 < bs.length) :
    Calls Tryz.prog 62 #[.pointer none, ptr nb, ptr bb, d] w fun e w' => e = .returned (.int .i64 3) ∧ w' = w := by
  have hn : 1 ≤ n.length ∧ n.length ≤ 32 := by simpa [mayB] using hm
  have hmb := mayBe_any w n (by omega)
  rw [hm] at hmb
  have hmb := hid hmb
  obtain ⟨hml, av, cv, rfl, _⟩ := h2
  unfold maxLen at hml
  unfold ptr
  unfold str at hnb hmb
  clear hm hn
  have hl' : (1048576 : Int) < (bs.length : Int) := by omega
  go_enter Tryz.func62, Tryz.ntmps62
  go_wp2_with (go_at_call 63; refine hmb.out.mono ?_; rintro e w' ⟨rfl, rfl⟩)
  go_ret
  exact ⟨rfl, rfl⟩
set_option maxHeartbeats 1000000 in
theorem append1_full {B sb : Nat} {g : Gs} (w : World) (h : StoreAt B w sb g) (n : List UInt8) (hm : mayB n = true) (nb bb cb : Nat) (hnb : w.cell? ⟨nb, 0, none⟩ = some (str n)) (hcb : w.cell? ⟨cb, 0, none⟩ = some (ptr sb)) {v2 : Value} {bs : List UInt8} (h2 : IsB w v2 bs) (hbb : w.cell? ⟨bb, 0, none⟩ = some v2) (hl : bs.length ≤ 1048576) (hf : 64 ≤ g.l.length) :
    Calls Tryz.prog 62 #[.pointer none, ptr nb, ptr bb, ptr cb] w fun e w' => e = .returned (.int .i64 4) ∧ w' = w := by
  have hn : 1 ≤ n.length ∧ n.length ≤ 32 := by simpa [mayB] using hm
  have hmb := mayBe_any w n (by omega)
  rw [hm] at hmb
  have hmb := hid hmb
  have c0 : w.cell? ⟨sb, 0, none⟩ = some (.map (some g.mb)) := by rw [cell_of h.cell]; rfl
  obtain ⟨D, hD, hM⟩ := h.map
  have hlen : ∀ ty, (Builtin.len_ #[29] ty #[.map (some g.mb)]).run Tryz.prog w = .ok (.int .i64 (g.l.length : Int)) w := fun ty => by
    rw [hD.len Tryz.underlying29 ty, hM.size]
  have hfew := h.few
  have hf64 : g.l.length = 64 := by omega
  rw [hf64] at hlen
  obtain ⟨hml, av, cv, rfl, _⟩ := h2
  unfold ptr at hcb ⊢
  unfold str at hnb hmb
  clear hm hn h hf64 hD hM hfew
  have hl' : ¬ (1048576 : Int) < (bs.length : Int) := by omega
  go_enter Tryz.func62, Tryz.ntmps62
  go_wp2_with (go_at_call 63; refine hmb.out.mono ?_; rintro e w' ⟨rfl, rfl⟩)
  go_ret
  exact ⟨rfl, rfl⟩
set_option maxHeartbeats 1000000 in
theorem append1_old_long (w : World) {f : Fg} (h : FileAt w f) (nb bb : Nat) (d : Value) (hnb : w.cell? ⟨nb, 0, none⟩ = some (str f.name)) {v2 : Value} {bs : List UInt8} (h2 : IsB w v2 bs) (hbb : w.cell? ⟨bb, 0, none⟩ = some v2) (hl : 1048576 < f.b.length + bs.length) :
    Calls Tryz.prog 62 #[ptr f.fb, ptr nb, ptr bb, d] w fun e w' => e = .returned (.int .i64 3) ∧ w' = w := by
  have hn := h.nm
  have hbig := h.big
  have hmb := mayBe_any w f.name (by omega)
  rw [show mayB f.name = true by simpa [mayB] using hn] at hmb
  have hmb := hid hmb
  obtain ⟨av, cv, hv⟩ := row_slice h.row
  have c0 : w.cell? ⟨f.fb, 0, none⟩ = some (.slice av f.b.length cv) := by rw [cell_of h.cell, hv]; rfl
  obtain ⟨hml, av2, cv2, rfl, _⟩ := h2
  unfold maxLen at hml
  unfold ptr
  unfold str at hnb hmb
  have hl' : 1048576 - (f.b.length : Int) < (bs.length : Int) := by omega
  clear h hv hn
  go_enter Tryz.func62, Tryz.ntmps62
  go_wp2_with (go_at_call 63; refine hmb.out.mono ?_; rintro e w' ⟨rfl, rfl⟩)
  go_ret
  exact ⟨rfl, rfl⟩
set_option maxHeartbeats 2000000 in
theorem append1_old (w : World) {f : Fg} (h : FileAt w f) (nb bb : Nat) (d : Value) (hnb : w.cell? ⟨nb, 0, none⟩ = some (str f.name)) {v2 : Value} {bs : List UInt8} (h2 : IsB w v2 bs) (hbb : w.cell? ⟨bb, 0, none⟩ = some v2) (hl : f.b.length + bs.length ≤ 1048576) :
    Calls Tryz.prog 62 #[ptr f.fb, ptr nb, ptr bb, d] w fun e w' => e = .returned (.int .i64 0) ∧ ∃ v', Turned w w' f { f with b := f.b ++ bs, v := v' } := by
  have hn := h.nm
  have hbig := h.big
  have hmb := mayBe_any w f.name (by omega)
  rw [show mayB f.name = true by simpa [mayB] using hn] at hmb
  have hmb := hid hmb
  obtain ⟨av, cv, hv⟩ := row_slice h.row
  have c0 : w.cell? ⟨f.fb, 0, none⟩ = some (.slice av f.b.length cv) := by rw [cell_of h.cell, hv]; rfl
  have z0 : w.frozen? ⟨f.fb, 0, none⟩ = false := frozen_of h.cell 0
  have hlt : f.fb < w.heap.size := lt_of_block h.cell
  obtain ⟨a', c', w1, hrun, hown, hgr, hat⟩ := app_run (w := w.drew) (base := 0) (v := f.v) (v2 := v2) (b := f.b) (bs := bs) h.row h2 (by omega) (Nat.zero_le _)
  have hfne : some f.fb ≠ f.v.ownBlock := fun e => h.fb_row h e.symm rfl
  have hblk : w1.heap[f.fb]? = w.heap[f.fb]? := hgr.block f.fb hlt hfne
  have d0 : w1.cell? ⟨f.fb, 0, none⟩ = some (.slice av f.b.length cv) := (World.cell?_of_block (a := ⟨f.fb, 0, none⟩) hblk).trans c0
  have y0 : w1.frozen? ⟨f.fb, 0, none⟩ = false := (World.frozen?_of_block (a := ⟨f.fb, 0, none⟩) hblk).trans z0
  have fin : Hid (Turned w (w1.setCell ⟨f.fb, 0, none⟩ (.slice a' (f.b.length + bs.length) c')) f { f with b := f.b ++ bs, v := .slice a' (f.b.length + bs.length) c' }) := by
    have hk : Kept (footF f) w w1 := by
      have := kept_of_grown (F := footF f) hgr fun k e => .inr e
      exact ⟨this.os, this.tape, this.output, this.size, this.block⟩
    refine turned_bytes0 h hk hblk (by simpa using hown) (fun k hk => ?_) (by simpa using hl) (by have := h.syn; simp; omega)
    rcases hat with e | e
    · exact .inl (by rw [← e]; exact hk)
    · rw [hk] at e; exact .inr (by injection e with e; rw [e]; exact Nat.le_refl _)
  obtain ⟨hml, av2, cv2, rfl, _⟩ := h2
  rw [hv] at hrun
  unfold ptr
  unfold str at hnb hmb
  have hl' : ¬ 1048576 - (f.b.length : Int) < (bs.length : Int) := by omega
  clear h hv hn hgr hown hat hblk
  go_enter Tryz.func62, Tryz.ntmps62
  go_wp2_with (go_at_call 63; refine hmb.out.mono ?_; rintro e w' ⟨rfl, rfl⟩)
  go_region_law (refine step_append rfl (.tmp 48) (.tmp 49) 22 rfl _ _ _ _ (by simp [Act.eval]) (by simp [Act.eval]) hrun ?_)
  all_goals (go_wp2; go_ret; exact ⟨rfl, _, fin.out⟩)
/-- what a call did to a store. -/
structure Step (B sb : Nat) (w w' : World) (g g' : Gs) : Prop where
  store : StoreAt B w' sb g'
  kept : Kept (foot sb g) w w'
  fresh : ∀ k, foot sb g' k → foot sb g k ∨ w.heap.size ≤ k
theorem Step.trans {B sb : Nat} {w w1 w2 : World} {g g1 g2 : Gs} (a : Step B sb w w1 g g1) (b : Step B sb w1 w2 g1 g2) : Step B sb w w2 g g2 :=
  ⟨b.store, a.kept.trans b.kept a.fresh, fun k hk => (b.fresh k hk).elim (a.fresh k) fun h => .inr (Nat.le_trans a.kept.size h)⟩
theorem Step.below {B sb : Nat} {w w1 : World} {g : Gs} (h : StoreAt B w sb g) (hb : Below w.heap.size w w1) : Step B sb w w1 g g :=
  ⟨h.below hb, kept_of_below hb, fun _ hk => .inl hk⟩
theorem Step.turn {B sb : Nat} {w w1 : World} {g : Gs} (h : StoreAt B w sb g) (hB : B ≤ w.heap.size) {f f' : Fg} (hf : f ∈ g.l) (ht : Turned w w1 f f') : Step B sb w w1 g { g with l := put f' g.l } :=
  ⟨h.turn hf ht.name ht.fb ht.file ht.kept.block ht.row hB, ht.kept.mono fun _ _ hk => .inr (.inr ⟨f, hf, hk⟩), foot_turn hf ht.fb ht.row⟩
theorem put_put {f f' : Fg} {l : List Fg} (hr : Rising l) (hn : f'.name = f.name) : put f' (put f l) = put f' l := by
  refine rising_ext (rising_put (rising_put hr)) (rising_put hr) fun x => ?_
  rw [mem_put, mem_put, mem_put]
  constructor
  · rintro (h | ⟨h | h, h'⟩)
    · exact .inl h
    · subst h; exact absurd hn.symm h'
    · exact .inr ⟨h.1, h'⟩
  · rintro (h | ⟨h, h'⟩)
    · exact .inl h
    · exact .inr ⟨.inr ⟨h, by rw [← hn]; exact h'⟩, h'⟩
set_option maxHeartbeats 4000000 in
theorem append1_new {B sb : Nat} {g : Gs} (w : World) (h : StoreAt B w sb g) (hB : B ≤ w.heap.size) (n : List UInt8) (hm : mayB n = true) (hlk : look n g.l = none) (nb bb cb : Nat) (hnb : w.cell? ⟨nb, 0, none⟩ = some (str n)) (hcb : w.cell? ⟨cb, 0, none⟩ = some (ptr sb)) {v2 : Value} {bs : List UInt8} (h2 : IsB w v2 bs) (hbb : w.cell? ⟨bb, 0, none⟩ = some v2) (hl : bs.length ≤ 1048576) (hf : g.l.length < 64) :
    Calls Tryz.prog 62 #[.pointer none, ptr nb, ptr bb, ptr cb] w fun e w' => e = .returned (.int .i64 0) ∧ ∃ fb v', Step B sb w w' g { g with l := put ⟨n, bs, 0, fb, v'⟩ g.l } := by
  have hn : 1 ≤ n.length ∧ n.length ≤ 32 := by simpa [mayB] using hm
  have hmb := mayBe_any w n (by omega)
  rw [hm] at hmb
  have hmb := hid hmb
  have c0 : w.cell? ⟨sb, 0, none⟩ = some (.map (some g.mb)) := by rw [cell_of h.cell]; rfl
  obtain ⟨D, hD, hM⟩ := h.map
  have hlen : ∀ ty, (Builtin.len_ #[29] ty #[.map (some g.mb)]).run Tryz.prog w = .ok (.int .i64 (g.l.length : Int)) w := fun ty => by
    rw [hD.len Tryz.underlying29 ty, hM.size]
  -- the new file's struct, and the name given to it
  obtain ⟨wa, hwa⟩ : ∃ wa, wa = w.alloc (.cells #[.slice none 0 0, .int .i64 0] 80) := ⟨_, rfl⟩
  have hba : Below w.heap.size w wa := by rw [hwa]; exact (Below.refl _ _).alloc (Nat.le_refl _) _
  have hsa : wa.heap.size = w.heap.size + 1 := by rw [hwa]; simp
  have ha := h.below hba
  have hfa : FileAt wa ⟨n, [], 0, w.heap.size, .slice none 0 0⟩ := by
    refine ⟨?_, World.ownsRow_nil _ _ _ _, Nat.le_refl _, by simp, hn⟩
    rw [hwa]; exact (MapKept.heap_alloc w _).1
  have hput := put_any wa ha n (by omega) w.heap.size
  have step : Hid (∀ w2, MapPut w2 g n w.heap.size → Kept (· = g.mb) wa w2 → ∃ a' c' w3, (∀ ty, (Builtin.append_ #[22, 22] ty #[.slice none 0 0, v2]).run Tryz.prog w2.drew = .ok (.slice a' bs.length c') w3) ∧
      w2.cell? ⟨w.heap.size, 0, none⟩ = some (.slice none 0 0) ∧ w2.cell? ⟨bb, 0, none⟩ = some v2 ∧ w3.cell? ⟨w.heap.size, 0, none⟩ = some (.slice none 0 0) ∧ w3.frozen? ⟨w.heap.size, 0, none⟩ = false ∧ Step B sb w (w3.setCell ⟨w.heap.size, 0, none⟩ (.slice a' bs.length c')) g { g with l := put ⟨n, bs, 0, w.heap.size, .slice a' bs.length c'⟩ g.l }) := by
    intro w2 hmp hk2
    obtain ⟨D', hD', _⟩ := ha.map
    obtain ⟨es, ck, hmap⟩ := map_block hD'
    have mbk : ∀ b o u, wa.cell? ⟨b, o, none⟩ = some u → w2.cell? ⟨b, o, none⟩ = some u := by
      intro b o u hu
      have hne : b ≠ g.mb := by intro e; subst e; simp [World.cell?, hmap] at hu
      exact (World.cell?_of_block (a := ⟨b, o, none⟩) (hk2.block b (World.block_lt_of_cell? wa ⟨b, o, none⟩ hu) hne)).trans hu
    have hs2 : StoreAt B w2 sb { g with l := put ⟨n, [], 0, w.heap.size, .slice none 0 0⟩ g.l } := by
      refine StoreAt.mapPut (f := ⟨n, [], 0, w.heap.size, .slice none 0 0⟩) ha hfa (fun x hx _ => ⟨?_, fun k hk => by cases hk⟩) ?_ ?_ hmp hk2
      · intro e; have := (h.files x hx).lt (.inl rfl); simp only at e; omega
      · rw [length_put_new hlk]; omega
      · rintro k (rfl | hk)
        · exact hB
        · cases hk
    have hmem : (⟨n, [], 0, w.heap.size, .slice none 0 0⟩ : Fg) ∈ put ⟨n, [], 0, w.heap.size, .slice none 0 0⟩ g.l := mem_put.2 (.inl rfl)
    have hf2 := hs2.files _ hmem
    have hsz2 : w.heap.size < w2.heap.size := by have := hk2.size; omega
    obtain ⟨a', c', w3, hrun, hown, hgr, hat⟩ := app_run (w := w2.drew) (base := 0) (v := .slice none 0 0) (v2 := v2) (b := []) (bs := bs) hf2.row ((h2.below hba).kept mbk) (by simp; omega) (Nat.zero_le _)
    simp only [List.length_nil, Nat.zero_add, List.nil_append] at hrun hown hat
    have hblk : w3.heap[w.heap.size]? = w2.heap[w.heap.size]? := hgr.block _ hsz2 (by simp [Value.ownBlock])
    have hcell3 : w3.heap[w.heap.size]? = some (.cells #[.slice none 0 0, .int .i64 (0 : Nat)] 80) := hblk.trans hf2.cell
    refine ⟨a', c', w3, hrun, by rw [cell_of hf2.cell]; rfl, mbk _ _ _ ((hba.cell (p := ⟨bb, 0, none⟩) (World.block_lt_of_cell? w ⟨bb, 0, none⟩ hbb)).trans hbb), by rw [cell_of hcell3]; rfl, frozen_of hcell3 0, ?_⟩
    have hk3 : Kept (footF ⟨n, [], 0, w.heap.size, .slice none 0 0⟩) w2 w3 := by
      have := kept_of_grown (F := footF ⟨n, [], 0, w.heap.size, .slice none 0 0⟩) hgr fun k e => by cases e
      exact ⟨this.os, this.tape, this.output, this.size, this.block⟩
    have ht : Turned w2 (w3.setCell ⟨w.heap.size, 0, none⟩ (.slice a' bs.length c')) ⟨n, [], 0, w.heap.size, .slice none 0 0⟩ ⟨n, bs, 0, w.heap.size, .slice a' bs.length c'⟩ := by
      refine turned_bytes0 (f := ⟨n, [], 0, w.heap.size, .slice none 0 0⟩) (b' := bs) hf2 hk3 hblk hown (fun k hk => ?_) hl (Nat.zero_le _)
      rcases hat with e | e
      · rw [hk] at e; cases e
      · rw [hk] at e; exact .inr (by injection e with e; rw [e]; exact Nat.le_refl _)
    have st := Step.turn hs2 (by omega) hmem ht
    simp only [put_put h.rising (f := ⟨n, [], 0, w.heap.size, .slice none 0 0⟩) (f' := ⟨n, bs, 0, w.heap.size, .slice a' bs.length c'⟩) rfl] at st
    have s0 : Step B sb w w2 g { g with l := put ⟨n, [], 0, w.heap.size, .slice none 0 0⟩ g.l } := by
      refine ⟨hs2, (kept_of_below (F := foot sb g) hba).trans hk2 fun k e => .inl (.inr (.inl e)), fun k hk => ?_⟩
      rcases foot_put hk with hk | hk
      · exact .inl hk
      · rcases hk with rfl | hk
        · exact .inr (Nat.le_refl _)
        · cases hk
    exact s0.trans st
  have hput := hid hput
  rw [hwa] at hput
  have hwa' := hid hwa
  obtain ⟨hml, av, cv, rfl, _⟩ := h2
  unfold ptr at hcb hput ⊢
  unfold str at hnb hmb hput
  clear hm hn h hD hM hwa ha hfa hba hsa
  have hl' : ¬ (1048576 : Int) < (bs.length : Int) := by omega
  have hf' : ¬ (64 : Int) ≤ (g.l.length : Int) := by omega
  have hcbl : cb < w.heap.size := World.block_lt_of_cell? w ⟨cb, 0, none⟩ hcb
  have hnbl : nb < w.heap.size := World.block_lt_of_cell? w ⟨nb, 0, none⟩ hnb
  go_enter Tryz.func62, Tryz.ntmps62
  go_wp2_with (first | (go_at_call 63; refine hmb.out.mono ?_; rintro e w' ⟨rfl, rfl⟩) | (go_at_call 64; refine hput.out.mono ?_; rintro e w2 ⟨rfl, hmp, hk2⟩; rw [← hwa'.out] at hk2; obtain ⟨a', c', w3, hrun, k0, k1, k2, k3, hst⟩ := step.out w2 hmp hk2; have hst := hid hst))
  go_region_law (refine step_append rfl (.tmp 48) (.tmp 49) 22 rfl _ _ _ _ (by simp [Act.eval]) (by simp [Act.eval]) hrun ?_)
  all_goals (go_wp2; go_ret; exact ⟨rfl, _, _, hst.out⟩)
end Go.Proofs.YtihgikekkgoddaaGreatDoor.Sto
/- A store as the chapter tells it: files by rising names (name, bytes, how many are synced), acts, how many are left; what each call makes of it. Plain mathematics. -/
namespace Go.Proofs.YtihgikekkgoddaaGreatDoor.Sto

structure Ent where
  name : List UInt8
  b : List UInt8
  s : Nat
def Fg.e (f : Fg) : Ent := ⟨f.name, f.b, f.s⟩
def delE (n : List UInt8) (l : List Ent) : List Ent := l.filter fun f => !(f.name == n)
def insE (f : Ent) : List Ent → List Ent
  | [] => [f]
  | g :: r => if f.name < g.name then f :: g :: r else g :: insE f r
def putE (f : Ent) (l : List Ent) : List Ent := insE f (delE f.name l)
def lookE (n : List UInt8) (l : List Ent) : Option Ent := l.find? fun f => f.name == n
theorem map_ins (f : Fg) : ∀ l : List Fg, (ins f l).map Fg.e = insE f.e (l.map Fg.e)
  | [] => rfl
  | g :: r => by
    show (if f.name < g.name then f :: g :: r else g :: ins f r).map Fg.e = if f.name < g.name then _ else _
    by_cases h : f.name < g.name
    · rw [if_pos h, if_pos h]; rfl
    · rw [if_neg h, if_neg h, List.map_cons, map_ins f r]
theorem map_del (n : List UInt8) (l : List Fg) : (del n l).map Fg.e = delE n (l.map Fg.e) := by
  unfold del delE
  rw [List.filter_map]
  rfl
theorem map_put (f : Fg) (l : List Fg) : (put f l).map Fg.e = putE f.e (l.map Fg.e) := by
  unfold put putE
  rw [map_ins, map_del]
  rfl
theorem map_look (n : List UInt8) (l : List Fg) : lookE n (l.map Fg.e) = (look n l).map Fg.e := by
  unfold look lookE
  rw [List.find?_map]
  rfl
structure St where
  l : List Ent
  acts : Nat
  left : Int
def Gs.abs (g : Gs) : St := ⟨g.l.map Fg.e, g.acts, g.left⟩
def St.done (t : St) : St := { t with acts := t.acts + 1, left := if 0 < t.left then t.left - 1 else t.left }
theorem abs_done (g : Gs) : (done g).abs = g.abs.done := rfl
def St.append (t : St) (n bs : List UInt8) : Int × St :=
  if t.left = 0 then (30, t) else
  if mayB n = false then (2, t) else
  match lookE n t.l with
  | some f => if 1048576 < f.b.length + bs.length then (3, t) else (0, St.done { t with l := putE { f with b := f.b ++ bs } t.l })
  | none => if 1048576 < bs.length then (3, t) else if 64 ≤ t.l.length then (4, t) else (0, St.done { t with l := putE ⟨n, bs, 0⟩ t.l })
def St.with (t : St) (n : List UInt8) (k : Ent → Int × St) : Int × St :=
  if t.left = 0 then (30, t) else
  match lookE n t.l with
  | none => (31, t)
  | some f => k f
def St.sync (t : St) (n : List UInt8) : Int × St := t.with n fun f => (0, St.done { t with l := putE { f with s := f.b.length } t.l })
def St.truncate (t : St) (n : List UInt8) (k : Int) : Int × St := t.with n fun f => if k < 0 ∨ (f.b.length : Int) < k then (2, t) else (0, St.done { t with l := putE { f with b := f.b.take k.toNat, s := min f.s k.toNat } t.l })
def St.rename (t : St) (o n : List UInt8) : Int × St := t.with o fun f => if mayB n = false then (2, t) else (0, St.done { t with l := putE { f with name := n } (delE o t.l) })
def St.remove (t : St) (n : List UInt8) : Int × St := t.with n fun _ => (0, St.done { t with l := delE n t.l })
def St.get (t : St) (n : List UInt8) (k : Ent → Int) : Int × Int :=
  if t.left = 0 then (0, 30) else
  match lookE n t.l with
  | none => (0, 31)
  | some f => (k f, 0)

/-- how a call stands ahead of count. -/
def Pend (B sb : Nat) (w w1 : World) (g : Gs) (r : Int) (S : St) : Prop :=
  (r ≠ 0 ∧ S = g.abs ∧ Step B sb w w1 g g) ∨ (r = 0 ∧ ∃ g1, g1.abs.done = S ∧ g1.acts < 4611686018427387904 ∧ Step B sb w w1 g g1)
theorem Pend.kept {B sb : Nat} {w w1 : World} {g : Gs} {r : Int} {S : St} (h : Pend B sb w w1 g r S) : Kept (foot sb g) w w1 := by
  rcases h with ⟨_, _, h⟩ | ⟨_, g1, _, _, h⟩ <;> exact h.kept
open Go.RowKit in
theorem count_of {B sb : Nat} {w w1 : World} {g : Gs} {r : Int} {S : St} (h : Pend B sb w w1 g r S) :
    Calls Tryz.prog 60 #[ptr sb, .int .i64 r] w1 fun e w' => e = .returned (.int .i64 r) ∧ ∃ g', g'.abs = S ∧ Step B sb w w' g g' := by
  rcases h with ⟨h0, rfl, h⟩ | ⟨rfl, g1, h1, h2, h⟩
  · refine (count_no w1 (ptr sb) r h0).mono ?_
    rintro e w' ⟨rfl, rfl⟩
    exact ⟨rfl, g, rfl, h⟩
  · refine (count_yes w1 h.store h2).mono ?_
    rintro e w' ⟨rfl, h3, h4⟩
    refine ⟨rfl, _, by rw [abs_done, h1], h.trans ⟨h3, h4, fun k hk => .inl hk⟩⟩
end Go.Proofs.YtihgikekkgoddaaGreatDoor.Sto
