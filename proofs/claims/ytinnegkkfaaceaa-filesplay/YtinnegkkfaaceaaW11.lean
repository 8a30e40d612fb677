/- Contracts of the store's acts: Remove, Rename, Append. -/
import Derived.Test.YtinnegkkfaaceaaW10
import Derived.Deep.RegionHeld
namespace Go.Proofs.Ytinnegkkfaaceaa
open Go.RowKit Go.Maps Go.MapKept Go.Shelf

theorem pend_del {B sb : Nat} {w w1 : World} {g : Gs} (h : StoreAt B w sb g) (ha : g.acts < 4611686018427387904) {f : Fg} (hf : f ∈ g.l) (hm : MapDel w1 g f.name) (hk : Kept (· = g.mb) w w1) : Pend B sb w w1 g 0 (St.done { g.abs with l := delE f.name g.abs.l }) := by
  refine .inr ⟨rfl, { g with l := del f.name g.l }, ?_, ha, h.mapDel hf hm hk, hk.mono fun _ _ e => .inr (.inl e), fun k hk' => .inl (foot_del hk')⟩
  simp only [Gs.abs, map_del]
theorem undrew' {B : Nat} {w w1 : World} (h : Below B w w1) : Below B w w1.drew := ⟨h.os, h.tape, h.output, h.size, h.block⟩
/-- a box that a call has laid stays. -/
theorem Pend.box {B sb : Nat} {w wb w1 : World} {g : Gs} {r : Int} {S : St} (h : StoreAt B w sb g) (hp : Pend B sb wb w1 g r S) {k : Nat} (hk : w.heap.size ≤ k) {v : Value} (hv : wb.cell? ⟨k, 0, none⟩ = some v) : w1.cell? ⟨k, 0, none⟩ = some v :=
  (World.cell?_of_block (a := ⟨k, 0, none⟩) (hp.kept.block k (World.block_lt_of_cell? wb ⟨k, 0, none⟩ hv) fun e => by have := h.lt e; omega)).trans hv
theorem Step.box {B sb : Nat} {w wb w1 : World} {g g' : Gs} (h : StoreAt B w sb g) (hp : Step B sb wb w1 g g') {k : Nat} (hk : w.heap.size ≤ k) {v : Value} (hv : wb.cell? ⟨k, 0, none⟩ = some v) : w1.cell? ⟨k, 0, none⟩ = some v :=
  (World.cell?_of_block (a := ⟨k, 0, none⟩) (hp.kept.block k (World.block_lt_of_cell? wb ⟨k, 0, none⟩ hv) fun e => by have := h.lt e; omega)).trans hv
set_option maxHeartbeats 800000 in
theorem remove_any {B sb : Nat} {g : Gs} (w : World) (h : StoreAt B w sb g) (n : List UInt8) (hn : n.length ≤ maxLen) (ha : g.acts < 4611686018427387904) :
    Calls Try.prog 28 #[ptr sb, str n] w fun e w' => e = .returned (.int .i64 (g.abs.remove n).1) ∧ ∃ g', g'.abs = (g.abs.remove n).2 ∧ Step B sb w w' g g' := by
  obtain ⟨wb, hwb⟩ : ∃ wb, wb = ((w.alloc (.cells #[ptr sb] 24)).alloc (.cells #[str n] 9)).drew := ⟨_, rfl⟩
  have hbb : Below w.heap.size w wb := by rw [hwb]; exact undrew' (((Below.refl _ _).alloc (Nat.le_refl _) _).alloc (by simp) _)
  have hsz : wb.heap.size = w.heap.size + 2 := by rw [hwb]; simp
  have hc0 : wb.cell? ⟨w.heap.size, 0, none⟩ = some (ptr sb) := by rw [hwb]; simp
  have hc1 : wb.cell? ⟨w.heap.size + 1, 0, none⟩ = some (str n) := by rw [hwb]; simp
  have hwl := h.below hbb
  have hf := find_pend wb hwl n hn 58 #[ptr w.heap.size, ptr (w.heap.size + 1)] e58 (fun _ => (0, St.done { g.abs with l := delE n g.abs.l })) (fun f hl => by
    obtain ⟨hf, hfn⟩ := look_some hl
    have hbx := boxed_below wb 58 #[ptr w.heap.size, ptr (w.heap.size + 1)]
    have h1 := hwl.below hbx
    refine (remove1 _ h1 n hn _ w.heap.size (w.heap.size + 1) ((hbx.cell (p := ⟨w.heap.size, 0, none⟩) (by show w.heap.size < _; omega)).trans hc0) ((hbx.cell (p := ⟨w.heap.size + 1, 0, none⟩) (by show w.heap.size + 1 < _; omega)).trans hc1)).mono ?_
    rintro e w' ⟨rfl, hm, hk⟩
    subst hfn
    exact ⟨0, rfl, rfl, pend_del h1 ha hf hm hk⟩)
  replace hf := hid hf
  change Hid (Calls _ _ _ _ fun e w' => ∃ r : Int, e = .returned (.int .i64 r) ∧ r = (g.abs.remove n).1 ∧ Pend B sb wb w' g r (g.abs.remove n).2) at hf
  have hc := hid fun r w1 (hp : Pend B sb wb w1 g r (g.abs.remove n).2) => And.intro (count_of hp) (And.intro (hp.box h (Nat.le_refl _) hc0) (hp.box h (Nat.le_succ _) hc1))
  have fin := hid fun w2 g' (hs : Step B sb wb w2 g g') => And.intro ((Step.below h hbb).trans hs) (And.intro (hs.box h (Nat.le_refl _) hc0) (hs.box h (Nat.le_succ _) hc1))
  have hwb' := hid hwb
  rw [hwb] at hf
  unfold ptr at hf hc fin ⊢
  unfold str at hf hc fin ⊢
  unfold ptr str at hwb'
  have hmf := mkf
  clear h hn ha hwb hbb hc0 hc1 hsz hwl
  go_enter Try.func28, Try.ntmps28
  go_wp2
  go_region_held (fun w' => w'.cell? ⟨w.heap.size, 0, none⟩ = some (.pointer (some ⟨sb, 0, none⟩)) ∧ w'.cell? ⟨w.heap.size + 1, 0, none⟩ = some (.string ⟨n.toArray⟩)) (go_keep) (first | (go_at_call 40; refine hf.out.mono ?_; rintro e w1 ⟨r, rfl, hr, hp⟩; replace hr := hid hr; rw [← hwb'.out] at hp; obtain ⟨hcc, hbox, hbox1⟩ := hc.out r w1 hp; replace hcc := hid hcc; clear hp) | (go_at_call 46; refine hcc.out.mono ?_; rintro e w2 ⟨rfl, g', hg, hs⟩; obtain ⟨hst, hbox2, hbox3⟩ := fin.out w2 g' hs; replace hg := hid (And.intro hg hst); clear hs hst))
  all_goals (go_wp2; go_ret; rw [hr.out]; exact ⟨rfl, g', hg.out.1, hg.out.2⟩)
end Go.Proofs.Ytinnegkkfaaceaa
