/- Joined: SW10 SW11 SW12 SW13 SW14. -/
import Derived.Test.YtihgikekkgoddaaGreatDoorZSc
import Derived.Deep.RegionHeld
import Derived.Sort.KeysCollected
/- Contracts of the store's acts: Sync, Truncate, Remove, Rename, Append. -/
namespace Go.Proofs.YtihgikekkgoddaaGreatDoor.Sto
open Go.RowKit Go.Maps Go.MapKept Go.Shelf

theorem Pend.pre {B sb : Nat} {w wb w1 : World} {g : Gs} {r : Int} {S : St} (h : StoreAt B w sb g) (hb : Below w.heap.size w wb) (hp : Pend B sb wb w1 g r S) : Pend B sb w w1 g r S := by
  rcases hp with ⟨h0, h1, h2⟩ | ⟨h0, g1, h1, h2, h3⟩
  · exact .inl ⟨h0, h1, (Step.below h hb).trans h2⟩
  · exact .inr ⟨h0, g1, h1, h2, (Step.below h hb).trans h3⟩
theorem pend_no {B sb : Nat} {w w1 : World} {g : Gs} {r : Int} (hr : r ≠ 0) (h : StoreAt B w sb g) (hb : Below w.heap.size w w1) : Pend B sb w w1 g r g.abs := .inl ⟨hr, rfl, Step.below h hb⟩
theorem drawn_below (w : World) (q : Nat) : Below w.heap.size w (w.drewN q) := ⟨rfl, rfl, rfl, Nat.le_refl _, fun _ _ => rfl⟩
theorem drew_below (w : World) : Below w.heap.size w w.drew := ⟨rfl, rfl, rfl, Nat.le_refl _, fun _ _ => rfl⟩
theorem find_pend {B sb : Nat} {g : Gs} (w : World) (h : StoreAt B w sb g) (n : List UInt8) (hn : n.length ≤ maxLen) (k : Nat) (lb : Array Value) (ek : Enters Tryz.prog k) (K : Ent → Int × St)
    (hit : ∀ f, look n g.l = some f → Calls Tryz.prog k (#[ptr f.fb] ++ lb) (boxed w k lb) fun e w' => ∃ r : Int, e = .returned (.int .i64 r) ∧ r = (K f.e).1 ∧ Pend B sb (boxed w k lb) w' g r (K f.e).2) :
    Calls Tryz.prog 66 #[ptr sb, str n, .func (.func k) #[] lb] w fun e w' => ∃ r : Int, e = .returned (.int .i64 r) ∧ r = (g.abs.with n K).1 ∧ Pend B sb w w' g r (g.abs.with n K).2 := by
  have hbx := boxed_below w k lb
  by_cases hd : g.left = 0
  · refine (find_dead w h hd n k lb).mono ?_
    rintro e w' ⟨rfl, rfl⟩
    have e1 : g.abs.with n K = (30, g.abs) := by unfold St.with; rw [if_pos (show g.abs.left = 0 from hd)]
    rw [e1]
    exact ⟨_, rfl, rfl, pend_no (by decide) h hbx⟩
  · cases hl : look n g.l with
    | none =>
      refine (find_miss w h hd n hn k lb hl).mono ?_
      rintro e w' ⟨rfl, rfl⟩
      have e1 : g.abs.with n K = (31, g.abs) := by
        unfold St.with; rw [if_neg (show ¬ g.abs.left = 0 from hd)]
        rw [show g.abs.l = g.l.map Fg.e from rfl, map_look, hl]; rfl
      rw [e1]
      exact ⟨_, rfl, rfl, pend_no (by decide) h hbx⟩
    | some f =>
      have e1 : g.abs.with n K = K f.e := by
        unfold St.with; rw [if_neg (show ¬ g.abs.left = 0 from hd)]
        rw [show g.abs.l = g.l.map Fg.e from rfl, map_look, hl]; rfl
      rw [e1]
      refine (find_hit w h hd n hn k lb ek hl (fun r w' => r = (K f.e).1 ∧ Pend B sb (boxed w k lb) w' g r (K f.e).2) (hit f hl)).mono ?_
      rintro e w' ⟨r, rfl, h1, h2⟩
      exact ⟨r, rfl, h1, h2.pre h hbx⟩
/-- a file that is turned, ahead of count. -/
theorem pend_turn {B sb : Nat} {w w1 : World} {g : Gs} (h : StoreAt B w sb g) (hB : B ≤ w.heap.size) (ha : g.acts < 4611686018427387904) {f f' : Fg} (hf : f ∈ g.l) (ht : Turned w w1 f f') : Pend B sb w w1 g 0 (St.done { g.abs with l := putE f'.e g.abs.l }) := by
  refine .inr ⟨rfl, { g with l := put f' g.l }, ?_, ha, Step.turn h hB hf ht⟩
  simp only [Gs.abs, map_put]
theorem le_boxed {B : Nat} {w : World} (h : B ≤ w.heap.size) (k : Nat) (lb : Array Value) : B ≤ (boxed w k lb).heap.size := by rw [boxed_size]; omega
theorem e55 : Enters Tryz.prog 67 := enters_of Tryz.func67 (by kernel_rfl) rfl
theorem e56 : Enters Tryz.prog 87 := enters_of Tryz.func87 (by kernel_rfl) rfl
theorem e57 : Enters Tryz.prog 95 := enters_of Tryz.func95 (by kernel_rfl) rfl
theorem e58 : Enters Tryz.prog 83 := enters_of Tryz.func83 (by kernel_rfl) rfl
theorem e48 : Enters Tryz.prog 62 := enters_of Tryz.func62 (by kernel_rfl) rfl
theorem e41 : Enters Tryz.prog 84 := enters_of Tryz.func84 (by kernel_rfl) rfl
theorem e44 : Enters Tryz.prog 49 := enters_of Tryz.func49 (by kernel_rfl) rfl
set_option maxHeartbeats 1000000 in
theorem sync_any {B sb : Nat} {g : Gs} (w : World) (h : StoreAt B w sb g) (hB : B ≤ w.heap.size) (n : List UInt8) (hn : n.length ≤ maxLen) (ha : g.acts < 4611686018427387904) :
    Calls Tryz.prog 39 #[ptr sb, str n] w fun e w' => e = .returned (.int .i64 (g.abs.sync n).1) ∧ ∃ g', g'.abs = (g.abs.sync n).2 ∧ Step B sb w w' g g' := by
  have hf := find_pend w h n hn 67 #[] e55 (fun f => (0, St.done { g.abs with l := putE { f with s := f.b.length } g.abs.l })) (fun f hl => by
    obtain ⟨hf, _⟩ := look_some hl
    have h1 := h.below (boxed_below w 67 #[])
    refine (sync1 _ (h1.files f hf)).mono ?_
    rintro e w' ⟨rfl, ht⟩
    exact ⟨0, rfl, rfl, pend_turn h1 (le_boxed hB _ _) ha hf ht⟩)
  have hf := hid hf
  change Hid (Calls _ _ _ _ fun e w' => ∃ r : Int, e = .returned (.int .i64 r) ∧ r = (g.abs.sync n).1 ∧ Pend B sb w w' g r (g.abs.sync n).2) at hf
  have hc := hid fun r w1 (hp : Pend B sb w w1 g r (g.abs.sync n).2) => count_of hp
  unfold ptr at hf hc ⊢
  unfold str at hf ⊢
  clear h hn hB ha
  go_enter Tryz.func39, Tryz.ntmps39
  go_wp2_with (go_at_call 66; refine hf.out.mono ?_; rintro e w1 ⟨r, rfl, hr, hp⟩; replace hr := hid hr; have hc := hid (hc.out r w1 hp))
  go_wp2_with (go_at_call 60; refine hc.out.mono ?_; rintro e w2 ⟨rfl, hg⟩; have hg := hid hg)
  go_ret
  rw [hr.out]
  exact ⟨rfl, hg.out⟩
set_option maxHeartbeats 1000000 in
theorem truncate_any {B sb : Nat} {g : Gs} (w : World) (h : StoreAt B w sb g) (hB : B ≤ w.heap.size) (n : List UInt8) (hn : n.length ≤ maxLen) (k : Int) (ha : g.acts < 4611686018427387904) :
    Calls Tryz.prog 56 #[ptr sb, str n, .int .i64 k] w fun e w' => e = .returned (.int .i64 (g.abs.truncate n k).1) ∧ ∃ g', g'.abs = (g.abs.truncate n k).2 ∧ Step B sb w w' g g' := by
  obtain ⟨wb, hwb⟩ : ∃ wb, wb = w.alloc (.cells #[.int .i64 k] 3) := ⟨_, rfl⟩
  have hbb : Below w.heap.size w wb := by rw [hwb]; exact (Below.refl _ _).alloc (Nat.le_refl _) _
  have hck : wb.cell? ⟨w.heap.size, 0, none⟩ = some (.int .i64 k) := by rw [hwb]; simp
  have hsz : wb.heap.size = w.heap.size + 1 := by rw [hwb]; simp
  have hwl := h.below hbb
  have hf := find_pend wb hwl n hn 87 #[ptr w.heap.size] e56 (fun f => if k < 0 ∨ (f.b.length : Int) < k then (2, g.abs) else (0, St.done { g.abs with l := putE { f with b := f.b.take k.toNat, s := min f.s k.toNat } g.abs.l })) (fun f hl => by
    obtain ⟨hf, _⟩ := look_some hl
    have hbx := boxed_below wb 87 #[ptr w.heap.size]
    have h1 := hwl.below hbx
    have hc1 : (boxed wb 87 #[ptr w.heap.size]).cell? ⟨w.heap.size, 0, none⟩ = some (.int .i64 k) := (hbx.cell (p := ⟨w.heap.size, 0, none⟩) (by show w.heap.size < wb.heap.size; omega)).trans hck
    by_cases hk : k < 0 ∨ (f.b.length : Int) < k
    · refine (truncate1_bad _ (h1.files f hf) w.heap.size k hc1 hk).mono ?_
      rintro e w' ⟨rfl, q, rfl⟩
      have hk' : k < 0 ∨ (f.e.b.length : Int) < k := hk
      rw [if_pos hk']
      exact ⟨2, rfl, rfl, pend_no (by decide) h1 (drawn_below _ q)⟩
    · obtain ⟨m, rfl⟩ : ∃ m : Nat, k = m := ⟨k.toNat, by omega⟩
      have hk' : ¬ ((m : Int) < 0 ∨ (f.e.b.length : Int) < m) := hk
      rw [if_neg hk']
      refine (truncate1 _ (h1.files f hf) w.heap.size m hc1 (by omega)).mono ?_
      rintro e w' ⟨rfl, v', ht⟩
      refine ⟨0, rfl, rfl, ?_⟩
      have := pend_turn h1 (le_boxed (by omega) _ _) ha hf ht
      exact this)
  have hf := hid hf
  change Hid (Calls _ _ _ _ fun e w' => ∃ r : Int, e = .returned (.int .i64 r) ∧ r = (g.abs.truncate n k).1 ∧ Pend B sb wb w' g r (g.abs.truncate n k).2) at hf
  have hc := hid fun r w1 (hp : Pend B sb wb w1 g r (g.abs.truncate n k).2) => count_of hp
  have fin := hid fun w2 g' (hs : Step B sb wb w2 g g') => (Step.below h hbb).trans hs
  have hwb' := hid hwb
  rw [hwb] at hf
  unfold ptr at hf hc ⊢
  unfold str at hf ⊢
  have hmf := mkf
  clear h hn hB ha hwb hbb hck hsz hwl
  go_enter Tryz.func56, Tryz.ntmps56
  go_wp2_with (go_at_call 66; refine hf.out.mono ?_; rintro e w1 ⟨r, rfl, hr, hp⟩; replace hr := hid hr; rw [← hwb'.out] at hp; have hc := hid (hc.out r w1 hp))
  go_wp2_with (go_at_call 60; refine hc.out.mono ?_; rintro e w2 ⟨rfl, hg⟩; have hg := hid hg)
  go_ret
  rw [hr.out]
  obtain ⟨g', h1, h2⟩ := hg.out
  exact ⟨rfl, g', h1, fin.out _ _ h2⟩
end Go.Proofs.YtihgikekkgoddaaGreatDoor.Sto
/- Contracts of the store's acts: Remove, Rename, Append. -/
namespace Go.Proofs.YtihgikekkgoddaaGreatDoor.Sto
open Go.RowKit Go.Maps Go.MapKept Go.Shelf

theorem pend_del {B sb : Nat} {w w1 : World} {g : Gs} (h : StoreAt B w sb g) (ha : g.acts < 4611686018427387904) {f : Fg} (hf : f ∈ g.l) (hm : MapDel w1 g f.name) (hk : Kept (· = g.mb) w w1) : Pend B sb w w1 g 0 (St.done { g.abs with l := delE f.name g.abs.l }) := by
  refine .inr ⟨rfl, { g with l := del f.name g.l }, ?_, ha, h.mapDel hf hm hk, hk.mono fun _ _ e => .inr (.inl e), fun k hk' => .inl (foot_del hk')⟩
  simp only [Gs.abs, map_del]
theorem undrew' {B : Nat} {w w1 : World} (h : Below B w w1) : Below B w w1.drew := ⟨h.os, h.tape, h.output, h.size, h.block⟩
/-- a box that a call has laid stays. -/
theorem Pend.box {B sb : Nat} {w wb w1 : World} {g : Gs} {r : Int} {S : St} (h : StoreAt B w sb g) (hp : Pend B sb wb w1 g r S) {k : Nat} (hk : w.heap.size ≤ k) {v : Value} (hv : wb.cell? ⟨k, 0, none⟩ = some v) : w1.cell? ⟨k, 0, none⟩ = some v :=
  (World.cell?_of_block (a := ⟨k, 0, none⟩) (hp.kept.block k (World.block_lt_of_cell? wb ⟨k, 0, none⟩ hv) fun e => by have := h.lt e; omega)).trans hv
theorem Step.box {B sb : Nat} {w wb w1 : World} {g g' : Gs} (h : StoreAt B w sb g) (hp : Step B sb wb w1 g g') {k : Nat} (hk : w.heap.size ≤ k) {v : Value} (hv : wb.cell? ⟨k, 0, none⟩ = some v) : w1.cell? ⟨k, 0, none⟩ = some v :=
  (World.cell?_of_block (a := ⟨k, 0, none⟩) (hp.kept.block k (World.block_lt_of_cell? wb ⟨k, 0, none⟩ hv) fun e => by have := h.lt e; omega)).trans hv
set_option maxHeartbeats 800000 in
theorem remove_any {B sb : Nat} {g : Gs} (w : World) (h : StoreAt B w sb g) (n : List UInt8) (hn : n.length ≤ maxLen) (ha : g.acts < 4611686018427387904) :
    Calls Tryz.prog 52 #[ptr sb, str n] w fun e w' => e = .returned (.int .i64 (g.abs.remove n).1) ∧ ∃ g', g'.abs = (g.abs.remove n).2 ∧ Step B sb w w' g g' := by
  obtain ⟨wb, hwb⟩ : ∃ wb, wb = ((w.alloc (.cells #[ptr sb] 23)).alloc (.cells #[str n] 9)).drew := ⟨_, rfl⟩
  have hbb : Below w.heap.size w wb := by rw [hwb]; exact undrew' (((Below.refl _ _).alloc (Nat.le_refl _) _).alloc (by simp) _)
  have hsz : wb.heap.size = w.heap.size + 2 := by rw [hwb]; simp
  have hc0 : wb.cell? ⟨w.heap.size, 0, none⟩ = some (ptr sb) := by rw [hwb]; simp
  have hc1 : wb.cell? ⟨w.heap.size + 1, 0, none⟩ = some (str n) := by rw [hwb]; simp
  have hwl := h.below hbb
  have hf := find_pend wb hwl n hn 83 #[ptr w.heap.size, ptr (w.heap.size + 1)] e58 (fun _ => (0, St.done { g.abs with l := delE n g.abs.l })) (fun f hl => by
    obtain ⟨hf, hfn⟩ := look_some hl
    have hbx := boxed_below wb 83 #[ptr w.heap.size, ptr (w.heap.size + 1)]
    have h1 := hwl.below hbx
    refine (remove1 _ h1 n hn _ w.heap.size (w.heap.size + 1) ((hbx.cell (p := ⟨w.heap.size, 0, none⟩) (by show w.heap.size < _; omega)).trans hc0) ((hbx.cell (p := ⟨w.heap.size + 1, 0, none⟩) (by show w.heap.size + 1 < _; omega)).trans hc1)).mono ?_
    rintro e w' ⟨rfl, hm, hk⟩
    subst hfn
    exact ⟨0, rfl, rfl, pend_del h1 ha hf hm hk⟩)
  replace hf := hid hf
  change Hid (Calls _ _ _ _ fun e w' => ∃ r : Int, e = .returned (.int .i64 r) ∧ r = (g.abs.remove n).1 ∧ Pend B sb wb w' g r (g.abs.remove n).2) at hf
  have hc := hid fun r w1 (hp : Pend B sb wb w1 g r (g.abs.remove n).2) => And.intro (count_of hp) (And.intro (hp.box h (Nat.le_refl _) hc0) (hp.box h (Nat.le_succ _) hc1))
  have fin := hid fun w2 g' (hs : Step B sb wb w2 g g') => And.intro ((Step.below h hbb).trans hs) (And.intro (hs.box h (Nat.le_refl _) hc0) (hs.box h (Nat.le_succ _) hc1))
  have hwb' := hid hwb
  rw [hwb] at hf
  unfold ptr at hf hc fin ⊢
  unfold str at hf hc fin ⊢
  unfold ptr str at hwb'
  have hmf := mkf
  clear h hn ha hwb hbb hc0 hc1 hsz hwl
  go_enter Tryz.func52, Tryz.ntmps52
  go_wp2
  go_region_held (fun w' => w'.cell? ⟨w.heap.size, 0, none⟩ = some (.pointer (some ⟨sb, 0, none⟩)) ∧ w'.cell? ⟨w.heap.size + 1, 0, none⟩ = some (.string ⟨n.toArray⟩)) (go_keep) (first | (go_at_call 66; refine hf.out.mono ?_; rintro e w1 ⟨r, rfl, hr, hp⟩; replace hr := hid hr; rw [← hwb'.out] at hp; obtain ⟨hcc, hbox, hbox1⟩ := hc.out r w1 hp; replace hcc := hid hcc; clear hp) | (go_at_call 60; refine hcc.out.mono ?_; rintro e w2 ⟨rfl, g', hg, hs⟩; obtain ⟨hst, hbox2, hbox3⟩ := fin.out w2 g' hs; replace hg := hid (And.intro hg hst); clear hs hst))
  all_goals (go_wp2; go_ret; rw [hr.out]; exact ⟨rfl, g', hg.out.1, hg.out.2⟩)
end Go.Proofs.YtihgikekkgoddaaGreatDoor.Sto
/- Contracts of the store's acts: Rename, Append. -/
namespace Go.Proofs.YtihgikekkgoddaaGreatDoor.Sto
open Go.RowKit Go.Maps Go.MapKept Go.Shelf

theorem cell_new (w : World) (v : Value) (t : TypeId) : (w.alloc (.cells #[v] t)).cell? ⟨w.heap.size, 0, none⟩ = some v := by simp
theorem box3 (w : World) (a b c : Value) (ta tb tc : TypeId) : (((w.alloc (.cells #[a] ta)).alloc (.cells #[b] tb)).alloc (.cells #[c] tc)).drew.cell? ⟨w.heap.size, 0, none⟩ = some a ∧ (((w.alloc (.cells #[a] ta)).alloc (.cells #[b] tb)).alloc (.cells #[c] tc)).drew.cell? ⟨w.heap.size + 1, 0, none⟩ = some b ∧ (((w.alloc (.cells #[a] ta)).alloc (.cells #[b] tb)).alloc (.cells #[c] tc)).drew.cell? ⟨w.heap.size + 2, 0, none⟩ = some c := by
  have e2 : (w.heap.size + 2 : Nat) = ((w.alloc (.cells #[a] ta)).alloc (.cells #[b] tb)).heap.size := by simp
  have e1 : (w.heap.size + 1 : Nat) = (w.alloc (.cells #[a] ta)).heap.size := by simp
  refine ⟨?_, ?_, ?_⟩
  · show World.cell? (((w.alloc (.cells #[a] ta)).alloc (.cells #[b] tb)).alloc (.cells #[c] tc)) _ = _
    rw [World.cell?_alloc_lt _ _ _ (by show w.heap.size < _; simp; omega), World.cell?_alloc_lt _ _ _ (by show w.heap.size < _; simp)]; simp
  · show World.cell? (((w.alloc (.cells #[a] ta)).alloc (.cells #[b] tb)).alloc (.cells #[c] tc)) _ = _
    rw [World.cell?_alloc_lt _ _ _ (by show w.heap.size + 1 < _; simp), e1]; simp
  · show World.cell? (((w.alloc (.cells #[a] ta)).alloc (.cells #[b] tb)).alloc (.cells #[c] tc)) _ = _
    rw [e2]; exact cell_new _ _ _
set_option maxHeartbeats 1600000 in
theorem rename_any {B sb : Nat} {g : Gs} (w : World) (h : StoreAt B w sb g) (hB : B ≤ w.heap.size) (o n : List UInt8) (ho : o.length ≤ maxLen) (hn : n.length ≤ 4294967296) (ha : g.acts < 4611686018427387904) :
    Calls Tryz.prog 72 #[ptr sb, str o, str n] w fun e w' => e = .returned (.int .i64 (g.abs.rename o n).1) ∧ ∃ g', g'.abs = (g.abs.rename o n).2 ∧ Step B sb w w' g g' := by
  obtain ⟨wb, hwb⟩ : ∃ wb, wb = (((w.alloc (.cells #[ptr sb] 23)).alloc (.cells #[str o] 9)).alloc (.cells #[str n] 9)).drew := ⟨_, rfl⟩
  have hbb : Below w.heap.size w wb := by rw [hwb]; exact undrew' ((((Below.refl _ _).alloc (Nat.le_refl _) _).alloc (by simp) _).alloc (by simp; omega) _)
  have hsz : wb.heap.size = w.heap.size + 3 := by rw [hwb]; simp
  have hc0 : wb.cell? ⟨w.heap.size, 0, none⟩ = some (ptr sb) := by rw [hwb]; exact (box3 _ _ _ _ _ _ _).1
  have hc1 : wb.cell? ⟨w.heap.size + 1, 0, none⟩ = some (str o) := by rw [hwb]; first | exact (box3 _ _ _ _ _ _ _).2.1 | exact (box3 _ _ _ _ _ _ _).2.2
  have hc2 : wb.cell? ⟨w.heap.size + 2, 0, none⟩ = some (str n) := by rw [hwb]; first | exact (box3 _ _ _ _ _ _ _).2.1 | exact (box3 _ _ _ _ _ _ _).2.2
  have hwl := h.below hbb
  have hf := find_pend wb hwl o ho 95 #[ptr (w.heap.size + 2), ptr w.heap.size, ptr (w.heap.size + 1)] e57 (fun f => if mayB n = false then (2, g.abs) else (0, St.done { g.abs with l := putE { f with name := n } (delE o g.abs.l) })) (fun f hl => by
    obtain ⟨hf, hfn⟩ := look_some hl
    have hbx := boxed_below wb 95 #[ptr (w.heap.size + 2), ptr w.heap.size, ptr (w.heap.size + 1)]
    have h1 := hwl.below hbx
    have k0 := (hbx.cell (p := ⟨w.heap.size, 0, none⟩) (by show w.heap.size < _; omega)).trans hc0
    have k1 := (hbx.cell (p := ⟨w.heap.size + 1, 0, none⟩) (by show w.heap.size + 1 < _; omega)).trans hc1
    have k2 := (hbx.cell (p := ⟨w.heap.size + 2, 0, none⟩) (by show w.heap.size + 2 < _; omega)).trans hc2
    cases hm : mayB n with
    | false =>
      refine (rename1_bad _ n hn hm _ _ _ (w.heap.size + 2) k2).mono ?_
      rintro e w' ⟨rfl, rfl⟩
      exact ⟨2, rfl, rfl, pend_no (by decide) h1 (Below.refl _ _)⟩
    | true =>
      refine (rename1 _ h1 o n hm hl (le_boxed (by omega) _ _) (w.heap.size + 2) w.heap.size (w.heap.size + 1) k2 k0 k1).mono ?_
      rintro e w' ⟨rfl, hs, hk⟩
      refine ⟨0, rfl, rfl, .inr ⟨rfl, { g with l := put { f with name := n } (del o g.l) }, ?_, ha, hs, hk.mono fun _ _ e => .inr (.inl e), fun k hk' => .inl ?_⟩⟩
      · simp only [Gs.abs, map_put, map_del]; rfl
      · rcases foot_put (g := { g with l := del o g.l }) hk' with h3 | h3
        · exact foot_del h3
        · exact .inr (.inr ⟨f, hf, h3⟩))
  replace hf := hid hf
  change Hid (Calls _ _ _ _ fun e w' => ∃ r : Int, e = .returned (.int .i64 r) ∧ r = (g.abs.rename o n).1 ∧ Pend B sb wb w' g r (g.abs.rename o n).2) at hf
  have hc := hid fun r w1 (hp : Pend B sb wb w1 g r (g.abs.rename o n).2) => And.intro (count_of hp) (And.intro (hp.box h (Nat.le_refl _) hc0) (hp.box h (Nat.le_succ _) hc1))
  have fin := hid fun w2 g' (hs : Step B sb wb w2 g g') => And.intro ((Step.below h hbb).trans hs) (And.intro (hs.box h (Nat.le_refl _) hc0) (hs.box h (Nat.le_succ _) hc1))
  have hwb' := hid hwb
  rw [hwb] at hf
  unfold ptr at hf hc fin ⊢
  unfold str at hf hc fin ⊢
  unfold ptr str at hwb'
  have hmf := mkf
  clear h hn ho ha hwb hbb hc0 hc1 hc2 hsz hwl
  go_enter Tryz.func72, Tryz.ntmps72
  go_wp2
  go_region_held (fun w' => w'.cell? ⟨w.heap.size, 0, none⟩ = some (.pointer (some ⟨sb, 0, none⟩)) ∧ w'.cell? ⟨w.heap.size + 1, 0, none⟩ = some (.string ⟨o.toArray⟩)) (go_keep) (first | (go_at_call 66; refine hf.out.mono ?_; rintro e w1 ⟨r, rfl, hr, hp⟩; replace hr := hid hr; rw [← hwb'.out] at hp; obtain ⟨hcc, hbox, hbox1⟩ := hc.out r w1 hp; replace hcc := hid hcc; clear hp) | (go_at_call 60; refine hcc.out.mono ?_; rintro e w2 ⟨rfl, g', hg, hs⟩; obtain ⟨hst, hbox2, hbox3⟩ := fin.out w2 g' hs; replace hg := hid (And.intro hg hst); clear hs hst))
  all_goals (go_wp2; go_ret; rw [hr.out]; exact ⟨rfl, g', hg.out.1, hg.out.2⟩)
theorem look_pend {B sb : Nat} {g : Gs} (w : World) (h : StoreAt B w sb g) (hB : B ≤ w.heap.size) (n : List UInt8) (hn : n.length ≤ 4294967296) (ha : g.acts < 4611686018427387904) (nb bb cb : Nat) (hnb : w.cell? ⟨nb, 0, none⟩ = some (str n)) (hcb : w.cell? ⟨cb, 0, none⟩ = some (ptr sb))
    {v2 : Value} {bs : List UInt8} (h2 : IsB w v2 bs) (hbb : w.cell? ⟨bb, 0, none⟩ = some v2) :
    Calls Tryz.prog 61 #[ptr sb, str n, .func (.func 62) #[] #[ptr nb, ptr bb, ptr cb]] w fun e w' => ∃ r : Int, e = .returned (.int .i64 r) ∧ r = (g.abs.append n bs).1 ∧ Pend B sb w w' g r (g.abs.append n bs).2 := by
  by_cases hd : g.left = 0
  · refine (look_dead w h hd n _ _).mono ?_
    rintro e w' ⟨rfl, rfl⟩
    have e1 : g.abs.append n bs = (30, g.abs) := by unfold St.append; rw [if_pos (show g.abs.left = 0 from hd)]
    rw [e1]
    exact ⟨_, rfl, rfl, pend_no (by decide) h (Below.refl _ _)⟩
  refine look_live w h hd n (by unfold maxLen; omega) _ _ e48 (fun r w' => r = (g.abs.append n bs).1 ∧ Pend B sb w w' g r (g.abs.append n bs).2) ?_
  have hd' : ¬ g.abs.left = 0 := hd
  cases hl : look n g.l with
  | none =>
    have hlE : lookE n g.abs.l = none := by rw [show g.abs.l = g.l.map Fg.e from rfl, map_look, hl]; rfl
    cases hm : mayB n with
    | false =>
      refine (append1_bad w n hn hm nb _ _ hnb).mono ?_
      rintro e w' ⟨rfl, rfl⟩
      have e1 : g.abs.append n bs = (2, g.abs) := by unfold St.append; rw [if_neg hd', if_pos hm]
      rw [e1]
      exact ⟨_, rfl, rfl, pend_no (by decide) h (Below.refl _ _)⟩
    | true =>
      have hm' : ¬ mayB n = false := by rw [hm]; decide
      by_cases hlong : 1048576 < bs.length
      · refine (append1_new_long w n hm nb bb _ hnb h2 hbb hlong).mono ?_
        rintro e w' ⟨rfl, rfl⟩
        have e1 : g.abs.append n bs = (3, g.abs) := by unfold St.append; rw [if_neg hd', if_neg hm', hlE]; simp only; rw [if_pos hlong]
        rw [e1]
        exact ⟨_, rfl, rfl, pend_no (by decide) h (Below.refl _ _)⟩
      · by_cases hfull : 64 ≤ g.l.length
        · refine (append1_full w h n hm nb bb cb hnb hcb h2 hbb (by omega) hfull).mono ?_
          rintro e w' ⟨rfl, rfl⟩
          have e1 : g.abs.append n bs = (4, g.abs) := by
            unfold St.append; rw [if_neg hd', if_neg hm', hlE]; simp only; rw [if_neg hlong, if_pos (by simpa [Gs.abs] using hfull)]
          rw [e1]
          exact ⟨_, rfl, rfl, pend_no (by decide) h (Below.refl _ _)⟩
        · refine (append1_new w h hB n hm hl nb bb cb hnb hcb h2 hbb (by omega) (by omega)).mono ?_
          rintro e w' ⟨rfl, fb, v', hs⟩
          have e1 : g.abs.append n bs = (0, St.done { g.abs with l := putE ⟨n, bs, 0⟩ g.abs.l }) := by
            unfold St.append; rw [if_neg hd', if_neg hm', hlE]; simp only; rw [if_neg hlong, if_neg (by simpa [Gs.abs] using hfull)]
          rw [e1]
          refine ⟨_, rfl, rfl, .inr ⟨rfl, _, ?_, ?_, hs⟩⟩
          · simp only [Gs.abs, map_put]; rfl
          · exact ha
  | some f =>
    obtain ⟨hf, rfl⟩ := look_some hl
    have hfile := h.files f hf
    have hm' : ¬ mayB f.name = false := by have := hfile.nm; simp [mayB, this]
    have hlE : lookE f.name g.abs.l = some f.e := by rw [show g.abs.l = g.l.map Fg.e from rfl, map_look, hl]; rfl
    by_cases hlong : 1048576 < f.b.length + bs.length
    · refine (append1_old_long w hfile nb bb _ hnb h2 hbb hlong).mono ?_
      rintro e w' ⟨rfl, rfl⟩
      have e1 : g.abs.append f.name bs = (3, g.abs) := by unfold St.append; rw [if_neg hd', if_neg hm', hlE]; simp only; rw [if_pos (show 1048576 < f.e.b.length + bs.length from hlong)]
      rw [e1]
      exact ⟨_, rfl, rfl, pend_no (by decide) h (Below.refl _ _)⟩
    · refine (append1_old w hfile nb bb _ hnb h2 hbb (by omega)).mono ?_
      rintro e w' ⟨rfl, v', ht⟩
      have e1 : g.abs.append f.name bs = (0, St.done { g.abs with l := putE { f.e with b := f.e.b ++ bs } g.abs.l }) := by
        unfold St.append; rw [if_neg hd', if_neg hm', hlE]; simp only; rw [if_neg (show ¬ 1048576 < f.e.b.length + bs.length from hlong)]
      rw [e1]
      exact ⟨_, rfl, rfl, pend_turn h hB ha hf ht⟩
set_option maxHeartbeats 1600000 in
theorem append_any {B sb : Nat} {g : Gs} (w : World) (h : StoreAt B w sb g) (hB : B ≤ w.heap.size) (n : List UInt8) (hn : n.length ≤ 4294967296) (v2 : Value) (bs : List UInt8) (h2 : IsB w v2 bs) (ha : g.acts < 4611686018427387904) :
    Calls Tryz.prog 36 #[ptr sb, str n, v2] w fun e w' => e = .returned (.int .i64 (g.abs.append n bs).1) ∧ ∃ g', g'.abs = (g.abs.append n bs).2 ∧ Step B sb w w' g g' := by
  obtain ⟨wb, hwb⟩ : ∃ wb, wb = (((w.alloc (.cells #[ptr sb] 23)).alloc (.cells #[str n] 9)).alloc (.cells #[v2] 22)).drew := ⟨_, rfl⟩
  have hbb : Below w.heap.size w wb := by rw [hwb]; exact undrew' ((((Below.refl _ _).alloc (Nat.le_refl _) _).alloc (by simp) _).alloc (by simp; omega) _)
  have hsz : wb.heap.size = w.heap.size + 3 := by rw [hwb]; simp
  have hc0 : wb.cell? ⟨w.heap.size, 0, none⟩ = some (ptr sb) := by rw [hwb]; exact (box3 _ _ _ _ _ _ _).1
  have hc1 : wb.cell? ⟨w.heap.size + 1, 0, none⟩ = some (str n) := by rw [hwb]; first | exact (box3 _ _ _ _ _ _ _).2.1 | exact (box3 _ _ _ _ _ _ _).2.2
  have hc2 : wb.cell? ⟨w.heap.size + 2, 0, none⟩ = some v2 := by rw [hwb]; exact (box3 _ _ _ _ _ _ _).2.2
  have hwl := h.below hbb
  have hf := look_pend wb hwl (by omega) n hn ha (w.heap.size + 1) (w.heap.size + 2) w.heap.size hc1 hc0 (h2.below hbb) hc2
  replace hf := hid hf
  have hc := hid fun r w1 (hp : Pend B sb wb w1 g r (g.abs.append n bs).2) => And.intro (count_of hp) (And.intro (hp.box h (Nat.le_refl _) hc0) (hp.box h (Nat.le_succ _) hc1))
  have fin := hid fun w2 g' (hs : Step B sb wb w2 g g') => And.intro ((Step.below h hbb).trans hs) (And.intro (hs.box h (Nat.le_refl _) hc0) (hs.box h (Nat.le_succ _) hc1))
  obtain ⟨_, av, cv, hv, _⟩ := h2
  rw [hv] at hwb ⊢
  have hwb' := hid hwb
  rw [hwb] at hf
  unfold ptr at hf hc fin ⊢
  unfold str at hf hc fin ⊢
  unfold ptr str at hwb'
  have hmf := mkf
  clear h hn ha hwb hbb hc0 hc1 hc2 hsz hwl
  go_enter Tryz.func36, Tryz.ntmps36
  go_wp2
  go_region_held (fun w' => w'.cell? ⟨w.heap.size, 0, none⟩ = some (.pointer (some ⟨sb, 0, none⟩)) ∧ w'.cell? ⟨w.heap.size + 1, 0, none⟩ = some (.string ⟨n.toArray⟩)) (go_keep) (first | (go_at_call 61; refine hf.out.mono ?_; rintro e w1 ⟨r, rfl, hr, hp⟩; replace hr := hid hr; rw [← hwb'.out] at hp; obtain ⟨hcc, hbox, hbox1⟩ := hc.out r w1 hp; replace hcc := hid hcc; clear hp) | (go_at_call 60; refine hcc.out.mono ?_; rintro e w2 ⟨rfl, g', hg, hs⟩; obtain ⟨hst, hbox2, hbox3⟩ := fin.out w2 g' hs; replace hg := hid (And.intro hg hst); clear hs hst))
  all_goals (go_wp2; go_ret; rw [hr.out]; exact ⟨rfl, g', hg.out.1, hg.out.2⟩)
end Go.Proofs.YtihgikekkgoddaaGreatDoor.Sto
/- Contracts of New, Size, Synced, Read. -/
namespace Go.Proofs.YtihgikekkgoddaaGreatDoor.Sto
open Go.RowKit Go.Maps Go.MapKept Go.Shelf

def g0 (mb : Nat) : Gs := ⟨mb, [], 0, -1⟩
theorem foot_g0 {sb mb k : Nat} (h : foot sb (g0 mb) k) : k = sb ∨ k = mb := by
  rcases h with h | h | ⟨x, hx, _⟩
  · exact .inl h
  · exact .inr h
  · cases hx
set_option maxHeartbeats 400000 in
theorem new_any (w : World) : Calls Tryz.prog 15 #[] w fun e w' => e = .returned (ptr (w.heap.size + 1)) ∧ StoreAt w.heap.size w' (w.heap.size + 1) (g0 w.heap.size) ∧ Below w.heap.size w w' ∧ w'.heap.size = w.heap.size + 2 := by
  have hmm := @run_makeMap Tryz.prog
  go_enter Tryz.func15, Tryz.ntmps15
  go_wp2
  go_ret
  have hb : Below w.heap.size w ((w.alloc (.map #[] 0)).alloc (.cells #[.map (some w.heap.size), .int .i64 0, .int .i64 (-1)] 31)) := ((Below.refl _ _).alloc (Nat.le_refl _) _).alloc (by simp) _
  have hown := (World.ownsMap_made w Tryz.prog 9 ptrR).alloc (.cells #[.map (some w.heap.size), .int .i64 0, .int .i64 (-1)] 31)
  refine ⟨rfl, ⟨?_, ⟨_, hown, ⟨(fun f hf => by cases hf), fun _ _ => rfl, rfl⟩⟩, (fun f hf => by cases hf), (fun f hf => by cases hf), List.Pairwise.nil, Nat.zero_le _, fun k hk => ?_, (by show -9223372036854775808 ≤ (-1 : Int) ∧ (-1 : Int) ≤ 9223372036854775807; omega)⟩, hb, by simp⟩
  · have e : w.heap.size + 1 = (w.alloc (.map #[] 0)).heap.size := by simp
    rw [e]
    exact (MapKept.heap_alloc (w.alloc (.map #[] 0)) _).1
  · rcases foot_g0 hk with rfl | rfl
    · omega
    · exact Nat.le_refl _
def St.read (t : St) (n : List UInt8) : List UInt8 × Int :=
  if t.left = 0 then ([], 30) else
  match lookE n t.l with
  | none => ([], 31)
  | some f => (f.b, 0)
theorem get_dead {g : Gs} (hd : g.left = 0) (n : List UInt8) (k : Ent → Int) : g.abs.get n k = (0, 30) := by unfold St.get; rw [if_pos (show g.abs.left = 0 from hd)]
theorem get_miss {g : Gs} (hd : g.left ≠ 0) {n : List UInt8} (hl : look n g.l = none) (k : Ent → Int) : g.abs.get n k = (0, 31) := by
  unfold St.get; rw [if_neg (show ¬ g.abs.left = 0 from hd), show g.abs.l = g.l.map Fg.e from rfl, map_look, hl]; rfl
theorem get_hit {g : Gs} (hd : g.left ≠ 0) {n : List UInt8} {f : Fg} (hl : look n g.l = some f) (k : Ent → Int) : g.abs.get n k = (k f.e, 0) := by
  unfold St.get; rw [if_neg (show ¬ g.abs.left = 0 from hd), show g.abs.l = g.l.map Fg.e from rfl, map_look, hl]; rfl
theorem read_dead {g : Gs} (hd : g.left = 0) (n : List UInt8) : g.abs.read n = ([], 30) := by unfold St.read; rw [if_pos (show g.abs.left = 0 from hd)]
theorem read_miss {g : Gs} (hd : g.left ≠ 0) {n : List UInt8} (hl : look n g.l = none) : g.abs.read n = ([], 31) := by
  unfold St.read; rw [if_neg (show ¬ g.abs.left = 0 from hd), show g.abs.l = g.l.map Fg.e from rfl, map_look, hl]; rfl
theorem read_hit {g : Gs} (hd : g.left ≠ 0) {n : List UInt8} {f : Fg} (hl : look n g.l = some f) : g.abs.read n = (f.b, 0) := by
  unfold St.read; rw [if_neg (show ¬ g.abs.left = 0 from hd), show g.abs.l = g.l.map Fg.e from rfl, map_look, hl]; rfl

theorem tell_any {B sb : Nat} {g : Gs} (w : World) (h : StoreAt B w sb g) (n : List UInt8) (hn : n.length ≤ maxLen) (k : Nat) (ek : Enters Tryz.prog k) (K : Ent → Int)
    (hk : ∀ w' (f : Fg), FileAt w' f → Calls Tryz.prog k #[ptr f.fb] w' fun e w2 => e = .returned (.int .i64 (K f.e)) ∧ w2 = w') :
    Calls Tryz.prog 48 #[ptr sb, str n, .func (.func k) #[] #[]] w fun e w' => e = .returned (.tuple #[.int .i64 (g.abs.get n K).1, .int .i64 (g.abs.get n K).2]) ∧ Below w.heap.size w w' := by
  have hb1 := told_below w k
  have h1 := h.below hb1
  have hs1 : (told w k).heap.size = w.heap.size + 2 := by simp [told]
  have c0 : (told w k).cell? ⟨w.heap.size, 0, none⟩ = some (.func (.func k) #[] #[]) := by simp [told]
  have e1 : w.heap.size + 1 = (w.alloc (.cells #[.func (.func k) #[] #[]] 83)).heap.size := by simp
  have b1 : (told w k).heap[w.heap.size + 1]? = some (.cells #[.int .i64 0] 3) := by rw [e1]; exact (MapKept.heap_alloc _ _).1
  have c1 : (told w k).cell? ⟨w.heap.size + 1, 0, none⟩ = some (.int .i64 0) := by rw [cell_of b1]; rfl
  refine tell_of w n k _ _ ?_
  have hbx := boxed_below (told w k) 79 #[ptr w.heap.size, ptr (w.heap.size + 1)]
  have hb2 : Below w.heap.size w (boxed (told w k) 79 #[ptr w.heap.size, ptr (w.heap.size + 1)]) := hb1.trans (hbx.mono (by omega))
  have b2 := (hbx.block (w.heap.size + 1) (by omega)).trans b1
  have d0 := (hbx.cell (p := ⟨w.heap.size, 0, none⟩) (by show w.heap.size < _; omega)).trans c0
  have d1 : (boxed (told w k) 79 #[ptr w.heap.size, ptr (w.heap.size + 1)]).cell? ⟨w.heap.size + 1, 0, none⟩ = some (.int .i64 0) := by rw [cell_of b2]; rfl
  by_cases hd : g.left = 0
  · rw [get_dead hd]
    refine (find_dead _ h1 hd n _ _).mono ?_
    rintro e w' ⟨rfl, rfl⟩
    exact ⟨rfl, hb2, d1⟩
  · cases hl : look n g.l with
    | none =>
      rw [get_miss hd hl]
      refine (find_miss _ h1 hd n hn _ _ hl).mono ?_
      rintro e w' ⟨rfl, rfl⟩
      exact ⟨rfl, hb2, d1⟩
    | some f =>
      rw [get_hit hd hl]
      have hf := (h1.below hbx).files f (look_some hl).1
      refine (find_hit _ h1 hd n hn 79 #[ptr w.heap.size, ptr (w.heap.size + 1)] e63 hl (fun r w' => r = 0 ∧ Below w.heap.size w w' ∧ w'.cell? ⟨w.heap.size + 1, 0, none⟩ = some (.int .i64 (K f.e))) ?_).mono ?_
      · refine (tell1_hit _ f.fb w.heap.size (w.heap.size + 1) k (K f.e) 0 d0 d1 (frozen_of b2 0) ek (hk _ f hf)).mono ?_
        rintro e w' ⟨rfl, rfl⟩
        refine ⟨0, rfl, rfl, ⟨hb2.os, hb2.tape, hb2.output, by rw [size_set]; exact hb2.size, fun i hi => (heap_set _ _ _ _ _ (by omega)).trans (hb2.block i hi)⟩, ?_⟩
        simp [World.cell?, heap_set_at b2]
      · rintro e w' ⟨r, rfl, rfl, h2, h3⟩
        exact ⟨rfl, h2, h3⟩
set_option maxHeartbeats 400000 in
theorem size_any {B sb : Nat} {g : Gs} (w : World) (h : StoreAt B w sb g) (n : List UInt8) (hn : n.length ≤ maxLen) :
    Calls Tryz.prog 21 #[ptr sb, str n] w fun e w' => e = .returned (.tuple #[.int .i64 (g.abs.get n fun f => f.b.length).1, .int .i64 (g.abs.get n fun f => f.b.length).2]) ∧ Below w.heap.size w w' := by
  have ht := hid (tell_any w h n hn 49 e44 (fun f => f.b.length) fun w' f hf => size1 w' hf)
  unfold ptr str at *
  clear h hn
  go_enter Tryz.func21, Tryz.ntmps21
  go_wp2_with (go_at_call 48; refine ht.out.mono ?_; rintro e w' ⟨rfl, hb⟩; replace hb := hid hb)
  go_ret2
  exact ⟨rfl, hb.out⟩
set_option maxHeartbeats 1000000 in
theorem read_of {v : Value} (w : World) (n : List UInt8) (bs : List UInt8) (r : Int)
    (hc : Calls Tryz.prog 66 #[v, str n, .func (.func 84) #[] #[ptr w.heap.size]] (w.alloc (.cells #[.slice none 0 0] 22)) fun e w' => e = .returned (.int .i64 r) ∧ Below w.heap.size w w' ∧ ∃ a c, w'.cell? ⟨w.heap.size, 0, none⟩ = some (.slice a bs.length c) ∧ w'.ownsRow w.heap.size 5 1 (.slice a bs.length c) bs.length (bs.map bv)) :
    Calls Tryz.prog 53 #[v, str n] w fun e w' => ∃ a c, e = .returned (.tuple #[.slice a bs.length c, .int .i64 r]) ∧ w'.ownsRow w.heap.size 5 1 (.slice a bs.length c) bs.length (bs.map bv) ∧ Below w.heap.size w w' := by
  replace hc := hid hc
  unfold ptr str at hc
  unfold str
  have hmf := mkf
  go_enter Tryz.func53, Tryz.ntmps53
  go_wp2_with (go_at_call 66; refine hc.out.mono ?_; rintro e w' ⟨rfl, hq, a, c, hx, ho⟩; replace hq := hid hq; replace ho := hid ho)
  go_ret2
  exact ⟨a, c, rfl, ho.out, hq.out⟩
theorem read_any {B sb : Nat} {g : Gs} (w : World) (h : StoreAt B w sb g) (n : List UInt8) (hn : n.length ≤ maxLen) :
    Calls Tryz.prog 53 #[ptr sb, str n] w fun e w' => ∃ a c, e = .returned (.tuple #[.slice a (g.abs.read n).1.length c, .int .i64 (g.abs.read n).2]) ∧ w'.ownsRow w.heap.size 5 1 (.slice a (g.abs.read n).1.length c) (g.abs.read n).1.length ((g.abs.read n).1.map bv) ∧ Below w.heap.size w w' := by
  refine read_of w n _ _ ?_
  obtain ⟨wa, hwa⟩ : ∃ wa, wa = w.alloc (.cells #[.slice none 0 0] 22) := ⟨_, rfl⟩
  have hba : Below w.heap.size w wa := by rw [hwa]; exact (Below.refl _ _).alloc (Nat.le_refl _) _
  have hsa : wa.heap.size = w.heap.size + 1 := by rw [hwa]; simp
  have b0 : wa.heap[w.heap.size]? = some (.cells #[.slice none 0 0] 22) := by rw [hwa]; exact (MapKept.heap_alloc _ _).1
  rw [← hwa]
  have h1 := h.below hba
  have hbx := boxed_below wa 84 #[ptr w.heap.size]
  have hb2 : Below w.heap.size w (boxed wa 84 #[ptr w.heap.size]) := hba.trans (hbx.mono (by omega))
  have b1 := (hbx.block w.heap.size (by omega)).trans b0
  have c1 : (boxed wa 84 #[ptr w.heap.size]).cell? ⟨w.heap.size, 0, none⟩ = some (.slice none 0 0) := by rw [cell_of b1]; rfl
  by_cases hd : g.left = 0
  · rw [read_dead hd]
    refine (find_dead _ h1 hd n _ _).mono ?_
    rintro e w' ⟨rfl, rfl⟩
    exact ⟨rfl, hb2, none, 0, c1, World.ownsRow_nil _ _ _ _⟩
  · cases hl : look n g.l with
    | none =>
      rw [read_miss hd hl]
      refine (find_miss _ h1 hd n hn _ _ hl).mono ?_
      rintro e w' ⟨rfl, rfl⟩
      exact ⟨rfl, hb2, none, 0, c1, World.ownsRow_nil _ _ _ _⟩
    | some f =>
      rw [read_hit hd hl]
      have hf := (h1.below hbx).files f (look_some hl).1
      refine (find_hit _ h1 hd n hn 84 #[ptr w.heap.size] e41 hl (fun r w' => r = 0 ∧ Below w.heap.size w w' ∧ ∃ a c, w'.cell? ⟨w.heap.size, 0, none⟩ = some (.slice a f.b.length c) ∧ w'.ownsRow w.heap.size 5 1 (.slice a f.b.length c) f.b.length (f.b.map bv)) ?_).mono ?_
      · refine (read1 _ hf w.heap.size (.slice none 0 0) b1 ⟨_, _, _, rfl⟩).mono ?_
        rintro e w' ⟨rfl, a, c, w1, hown, hbw, rfl⟩
        have hb3 : Below w.heap.size w w1 := hb2.trans (hbw.mono (by rw [boxed_size]; omega))
        have b3 := (hbw.block w.heap.size (by rw [boxed_size]; omega)).trans b1
        refine ⟨0, rfl, rfl, ⟨hb3.os, hb3.tape, hb3.output, by rw [size_set]; exact hb3.size, fun i hi => (heap_set _ _ _ _ _ (by omega)).trans (hb3.block i hi)⟩, a, c, ?_, ?_⟩
        · simp [World.cell?, heap_set_at b3]
        · refine ownsRow_base (ownsRow_block hown fun k hk => heap_set _ _ _ _ _ ?_) fun k hk => ?_
          · have := (hown.lt k hk).1; rw [boxed_size] at this; omega
          · have := (hown.lt k hk).1; rw [boxed_size] at this; omega
      · rintro e w' ⟨r, rfl, rfl, h2, h3⟩
        exact ⟨rfl, h2, h3⟩
end Go.Proofs.YtihgikekkgoddaaGreatDoor.Sto
/- Contract of Names: the files' names, rising. -/
namespace Go.Proofs.YtihgikekkgoddaaGreatDoor.Sto
open Go.RowKit Go.Maps Go.MapKept Go.Shelf Go.Sort

def names (l : List Fg) : List (List UInt8) := l.map (·.name)
theorem names_sorted {l : List Fg} (h : Rising l) : (names l).Pairwise fun a b => decide (a ≤ b) = true := by
  refine List.pairwise_map.2 (List.Pairwise.imp (fun {a b} hab => ?_) h)
  simp only [decide_eq_true_eq]
  exact List.le_of_lt hab
theorem names_nodup {l : List Fg} (h : Rising l) : (names l).Nodup := by
  refine List.pairwise_map.2 (List.Pairwise.imp (fun {a b} hab e => ?_) h)
  rw [e] at hab
  exact lt_irrefl _ hab
theorem keys_names {w : World} {b n : Nat} {D : DataW Unit} {l : List Fg} (hD : w.ownsMap Tryz.prog 9 ptrR b n D) (hM : MapOf D l) (hr : Rising l) {ss : List (List UInt8)} (hs : ss.Perm (strKeys D)) : ss.mergeSort (fun x y => decide (x ≤ y)) = names l := by
  have hT := hD.tidy law
  obtain ⟨es, rfl, hp⟩ := hT
  obtain ⟨es', he, hk⟩ := hD.keysOf
  cases he
  have hperm : (names l).Perm (strKeys (.map es)) := by
    refine perm_strKeys hp (fun p hp' => ?_) (names_nodup hr) fun x => ?_
    · obtain ⟨v, hv⟩ := hk p hp'
      obtain ⟨x, _, hx, _⟩ := Maps.keyOf_str Tryz.underlying9 hv
      exact ⟨x, hx⟩
    · constructor
      · intro hx
        obtain ⟨f, hf, rfl⟩ := List.mem_map.1 hx
        exact hM.has hf
      · intro hx
        apply Classical.byContradiction
        intro hn
        have := hM.no x fun f hf e => hn (List.mem_map.2 ⟨f, hf, e⟩)
        rw [this] at hx
        cases hx
  have e1 := mergeSort_of_perm (hs.trans hperm.symm)
  have e2 : (names l).mergeSort (fun x y => decide (x ≤ y)) = names l := List.mergeSort_of_pairwise (names_sorted hr)
  exact e1.trans e2
set_option maxHeartbeats 1000000 in
theorem names_any {B sb : Nat} {g : Gs} (w : World) (h : StoreAt B w sb g) :
    Calls Tryz.prog 45 #[ptr sb] w fun e w' => ∃ a c, e = .returned (.slice a (names g.l).length c) ∧ w'.ownsRow w.heap.size 9 1 (.slice a (names g.l).length c) (names g.l).length ((names g.l).map str) ∧ Below w.heap.size w w' := by
  have hm := hid (made_yes w h)
  have c0 : w.cell? ⟨sb, 0, none⟩ = some (.map (some g.mb)) := by rw [cell_of h.cell]; rfl
  obtain ⟨D, hD, hM⟩ := h.map
  have hsz := hM.size
  have hfew := h.few
  have k1 := hid (callsIn_wide.1 (Tryz.maps_Keys_77 (some g.mb) w))
  have k2 := hid (callsIn_wide.1 (Tryz.slices_Sorted_keys_76_77 g.mb g.l.length D ptrR w hD (by unfold maxLen; omega) (by omega)))
  have fin : Hid (∀ v w' (ss : List (List UInt8)), ss.Perm (strKeys D) → w'.ownsRow (w.alloc (.cells #[.map (some g.mb)] 29)).heap.size 9 1 v ss.length ((ss.mergeSort (fun x y => decide (x ≤ y))).map Go.Proofs.encStr) →
      Below (w.alloc (.cells #[.map (some g.mb)] 29)).heap.size (w.alloc (.cells #[.map (some g.mb)] 29)) w' →
      ∃ a c, v = .slice a (names g.l).length c ∧ w'.ownsRow w.heap.size 9 1 (.slice a (names g.l).length c) (names g.l).length ((names g.l).map str) ∧ Below w.heap.size w w') := by
    intro v w' ss hs hrow hb
    have e := keys_names hD hM h.rising hs
    rw [e] at hrow
    have hl : ss.length = (names g.l).length := by rw [← e]; simp
    rw [hl] at hrow
    obtain ⟨a, c, rfl⟩ := row_slice hrow
    refine ⟨a, c, rfl, ownsRow_base hrow fun k hk => ?_, ((Below.refl _ w).alloc (Nat.le_refl _) _).trans (hb.mono (by simp))⟩
    have := (hrow.lt k hk).1
    simp at this
    omega
  unfold ptr at hm ⊢
  clear h hD hM hsz hfew
  go_enter Tryz.func45, Tryz.ntmps45
  go_wp2_with (first | (go_at_call 44; refine hm.out.mono ?_; rintro e w' ⟨rfl, rfl⟩) | (go_at_call 77; refine k1.out.mono ?_; rintro e w' ⟨rfl, rfl⟩) | (go_at_call 76; refine k2.out.mono ?_; rintro e w2 ⟨v, ss, rfl, hs, hrow, _, hb⟩; obtain ⟨a, c, rfl, h1, h2⟩ := fin.out v w2 ss hs hrow hb; replace h1 := hid h1; replace h2 := hid h2; clear hs hrow hb))
  go_ret
  exact ⟨a, c, rfl, h1.out, h2.out⟩
end Go.Proofs.YtihgikekkgoddaaGreatDoor.Sto
