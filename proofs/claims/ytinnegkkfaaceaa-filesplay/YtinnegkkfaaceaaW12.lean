/- Contracts of the store's acts: Rename, Append. -/
import Derived.Test.YtinnegkkfaaceaaW11
namespace Go.Proofs.Ytinnegkkfaaceaa
open Go.RowKit Go.Maps Go.MapKept Go.Shelf

theorem cell_new (w : World) (v : Value) (t : TypeId) : (w.alloc (.cells #[v] t)).cell? ⟨w.heap.size, 0, none⟩ = some v := by simp
theorem box3 (w : World) (a b c : Value) (ta tb tc : TypeId) : (((w.alloc (.cells #[a] ta)).alloc (.cells #[b] tb)).alloc (.cells #[c] tc)).drew.cell? ⟨w.heap.size, 0, none⟩ = some a ∧ (((w.alloc (.cells #[a] ta)).alloc (.cells #[b] tb)).alloc (.cells #[c] tc)).drew.cell? ⟨w.heap.size + 1, 0, none⟩ = some b ∧ (((w.alloc (.cells #[a] ta)).alloc (.cells #[b] tb)).alloc (.cells #[c] tc)).drew.cell? ⟨w.heap.size + 2, 0, none⟩ = some c := by
  have e2 : (w.heap.size + 2 : Nat) = ((w.alloc (.cells #[a] ta)).alloc (.cells #[b] tb)).heap.size := by simp
  have e1 : (w.heap.size + 1 : Nat) = (w.alloc (.cells #[a] ta)).heap.size := by simp
  refine ⟨?_, ?_, ?_⟩
  · show World.cell? (((w.alloc (.cells #[a] ta)).alloc (.cells #[b] tb)).alloc (.cells #[c] tc)) _ = _
    rw [World.cell?_alloc_lt _ _ _ (by show w.heap.size < _; simp; omega), World.cell?_alloc_lt _ _ _ (by show w.heap.size < _; simp)]; simp
  · show World.cell? (((w.alloc (.cells #[a] ta)).alloc (.cells #[b] tb)).alloc (.cells #[c] tc)) _ = _
    rw [World.cell?_alloc_lt _ _ _ (by show w.heap.size + 1 < _; simp), e1]; simp
  · show World.cell? (((w.alloc (.cells #[a] ta)).alloc (.cells #[b] tb)).alloc (.cells #[c] tc)) _ = _
    rw [e2]; exact cell_new _ _ _
set_option maxHeartbeats 1600000 in
theorem rename_any {B sb : Nat} {g : Gs} (w : World) (h : StoreAt B w sb g) (hB : B ≤ w.heap.size) (o n : List UInt8) (ho : o.length ≤ maxLen) (hn : n.length ≤ 4294967296) (ha : g.acts < 4611686018427387904) :
    Calls Try.prog 27 #[ptr sb, str o, str n] w fun e w' => e = .returned (.int .i64 (g.abs.rename o n).1) ∧ ∃ g', g'.abs = (g.abs.rename o n).2 ∧ Step B sb w w' g g' := by
  obtain ⟨wb, hwb⟩ : ∃ wb, wb = (((w.alloc (.cells #[ptr sb] 24)).alloc (.cells #[str o] 9)).alloc (.cells #[str n] 9)).drew := ⟨_, rfl⟩
  have hbb : Below w.heap.size w wb := by rw [hwb]; exact undrew' ((((Below.refl _ _).alloc (Nat.le_refl _) _).alloc (by simp) _).alloc (by simp; omega) _)
  have hsz : wb.heap.size = w.heap.size + 3 := by rw [hwb]; simp
  have hc0 : wb.cell? ⟨w.heap.size, 0, none⟩ = some (ptr sb) := by rw [hwb]; exact (box3 _ _ _ _ _ _ _).1
  have hc1 : wb.cell? ⟨w.heap.size + 1, 0, none⟩ = some (str o) := by rw [hwb]; first | exact (box3 _ _ _ _ _ _ _).2.1 | exact (box3 _ _ _ _ _ _ _).2.2
  have hc2 : wb.cell? ⟨w.heap.size + 2, 0, none⟩ = some (str n) := by rw [hwb]; first | exact (box3 _ _ _ _ _ _ _).2.1 | exact (box3 _ _ _ _ _ _ _).2.2
  have hwl := h.below hbb
  have hf := find_pend wb hwl o ho 57 #[ptr (w.heap.size + 2), ptr w.heap.size, ptr (w.heap.size + 1)] e57 (fun f => if mayB n = false then (2, g.abs) else (0, St.done { g.abs with l := putE { f with name := n } (delE o g.abs.l) })) (fun f hl => by
    obtain ⟨hf, hfn⟩ := look_some hl
    have hbx := boxed_below wb 57 #[ptr (w.heap.size + 2), ptr w.heap.size, ptr (w.heap.size + 1)]
    have h1 := hwl.below hbx
    have k0 := (hbx.cell (p := ⟨w.heap.size, 0, none⟩) (by show w.heap.size < _; omega)).trans hc0
    have k1 := (hbx.cell (p := ⟨w.heap.size + 1, 0, none⟩) (by show w.heap.size + 1 < _; omega)).trans hc1
    have k2 := (hbx.cell (p := ⟨w.heap.size + 2, 0, none⟩) (by show w.heap.size + 2 < _; omega)).trans hc2
    cases hm : mayB n with
    | false =>
      refine (rename1_bad _ n hn hm _ _ _ (w.heap.size + 2) k2).mono ?_
      rintro e w' ⟨rfl, rfl⟩
      exact ⟨2, rfl, rfl, pend_no (by decide) h1 (Below.refl _ _)⟩
    | true =>
      refine (rename1 _ h1 o n hm hl (le_boxed (by omega) _ _) (w.heap.size + 2) w.heap.size (w.heap.size + 1) k2 k0 k1).mono ?_
      rintro e w' ⟨rfl, hs, hk⟩
      refine ⟨0, rfl, rfl, .inr ⟨rfl, { g with l := put { f with name := n } (del o g.l) }, ?_, ha, hs, hk.mono fun _ _ e => .inr (.inl e), fun k hk' => .inl ?_⟩⟩
      · simp only [Gs.abs, map_put, map_del]; rfl
      · rcases foot_put (g := { g with l := del o g.l }) hk' with h3 | h3
        · exact foot_del h3
        · exact .inr (.inr ⟨f, hf, h3⟩))
  replace hf := hid hf
  change Hid (Calls _ _ _ _ fun e w' => ∃ r : Int, e = .returned (.int .i64 r) ∧ r = (g.abs.rename o n).1 ∧ Pend B sb wb w' g r (g.abs.rename o n).2) at hf
  have hc := hid fun r w1 (hp : Pend B sb wb w1 g r (g.abs.rename o n).2) => And.intro (count_of hp) (And.intro (hp.box h (Nat.le_refl _) hc0) (hp.box h (Nat.le_succ _) hc1))
  have fin := hid fun w2 g' (hs : Step B sb wb w2 g g') => And.intro ((Step.below h hbb).trans hs) (And.intro (hs.box h (Nat.le_refl _) hc0) (hs.box h (Nat.le_succ _) hc1))
  have hwb' := hid hwb
  rw [hwb] at hf
  unfold ptr at hf hc fin ⊢
  unfold str at hf hc fin ⊢
  unfold ptr str at hwb'
  have hmf := mkf
  clear h hn ho ha hwb hbb hc0 hc1 hc2 hsz hwl
  go_enter Try.func27, Try.ntmps27
  go_wp2
  go_region_held (fun w' => w'.cell? ⟨w.heap.size, 0, none⟩ = some (.pointer (some ⟨sb, 0, none⟩)) ∧ w'.cell? ⟨w.heap.size + 1, 0, none⟩ = some (.string ⟨o.toArray⟩)) (go_keep) (first | (go_at_call 40; refine hf.out.mono ?_; rintro e w1 ⟨r, rfl, hr, hp⟩; replace hr := hid hr; rw [← hwb'.out] at hp; obtain ⟨hcc, hbox, hbox1⟩ := hc.out r w1 hp; replace hcc := hid hcc; clear hp) | (go_at_call 46; refine hcc.out.mono ?_; rintro e w2 ⟨rfl, g', hg, hs⟩; obtain ⟨hst, hbox2, hbox3⟩ := fin.out w2 g' hs; replace hg := hid (And.intro hg hst); clear hs hst))
  all_goals (go_wp2; go_ret; rw [hr.out]; exact ⟨rfl, g', hg.out.1, hg.out.2⟩)
theorem look_pend {B sb : Nat} {g : Gs} (w : World) (h : StoreAt B w sb g) (hB : B ≤ w.heap.size) (n : List UInt8) (hn : n.length ≤ 4294967296) (ha : g.acts < 4611686018427387904) (nb bb cb : Nat) (hnb : w.cell? ⟨nb, 0, none⟩ = some (str n)) (hcb : w.cell? ⟨cb, 0, none⟩ = some (ptr sb))
    {v2 : Value} {bs : List UInt8} (h2 : IsB w v2 bs) (hbb : w.cell? ⟨bb, 0, none⟩ = some v2) :
    Calls Try.prog 47 #[ptr sb, str n, .func (.func 48) #[] #[ptr nb, ptr bb, ptr cb]] w fun e w' => ∃ r : Int, e = .returned (.int .i64 r) ∧ r = (g.abs.append n bs).1 ∧ Pend B sb w w' g r (g.abs.append n bs).2 := by
  by_cases hd : g.left = 0
  · refine (look_dead w h hd n _ _).mono ?_
    rintro e w' ⟨rfl, rfl⟩
    have e1 : g.abs.append n bs = (30, g.abs) := by unfold St.append; rw [if_pos (show g.abs.left = 0 from hd)]
    rw [e1]
    exact ⟨_, rfl, rfl, pend_no (by decide) h (Below.refl _ _)⟩
  refine look_live w h hd n (by unfold maxLen; omega) _ _ e48 (fun r w' => r = (g.abs.append n bs).1 ∧ Pend B sb w w' g r (g.abs.append n bs).2) ?_
  have hd' : ¬ g.abs.left = 0 := hd
  cases hl : look n g.l with
  | none =>
    have hlE : lookE n g.abs.l = none := by rw [show g.abs.l = g.l.map Fg.e from rfl, map_look, hl]; rfl
    cases hm : mayB n with
    | false =>
      refine (append1_bad w n hn hm nb _ _ hnb).mono ?_
      rintro e w' ⟨rfl, rfl⟩
      have e1 : g.abs.append n bs = (2, g.abs) := by unfold St.append; rw [if_neg hd', if_pos hm]
      rw [e1]
      exact ⟨_, rfl, rfl, pend_no (by decide) h (Below.refl _ _)⟩
    | true =>
      have hm' : ¬ mayB n = false := by rw [hm]; decide
      by_cases hlong : 1048576 < bs.length
      · refine (append1_new_long w n hm nb bb _ hnb h2 hbb hlong).mono ?_
        rintro e w' ⟨rfl, rfl⟩
        have e1 : g.abs.append n bs = (3, g.abs) := by unfold St.append; rw [if_neg hd', if_neg hm', hlE]; simp only; rw [if_pos hlong]
        rw [e1]
        exact ⟨_, rfl, rfl, pend_no (by decide) h (Below.refl _ _)⟩
      · by_cases hfull : 64 ≤ g.l.length
        · refine (append1_full w h n hm nb bb cb hnb hcb h2 hbb (by omega) hfull).mono ?_
          rintro e w' ⟨rfl, rfl⟩
          have e1 : g.abs.append n bs = (4, g.abs) := by
            unfold St.append; rw [if_neg hd', if_neg hm', hlE]; simp only; rw [if_neg hlong, if_pos (by simpa [Gs.abs] using hfull)]
          rw [e1]
          exact ⟨_, rfl, rfl, pend_no (by decide) h (Below.refl _ _)⟩
        · refine (append1_new w h hB n hm hl nb bb cb hnb hcb h2 hbb (by omega) (by omega)).mono ?_
          rintro e w' ⟨rfl, fb, v', hs⟩
          have e1 : g.abs.append n bs = (0, St.done { g.abs with l := putE ⟨n, bs, 0⟩ g.abs.l }) := by
            unfold St.append; rw [if_neg hd', if_neg hm', hlE]; simp only; rw [if_neg hlong, if_neg (by simpa [Gs.abs] using hfull)]
          rw [e1]
          refine ⟨_, rfl, rfl, .inr ⟨rfl, _, ?_, ?_, hs⟩⟩
          · simp only [Gs.abs, map_put]; rfl
          · exact ha
  | some f =>
    obtain ⟨hf, rfl⟩ := look_some hl
    have hfile := h.files f hf
    have hm' : ¬ mayB f.name = false := by have := hfile.nm; simp [mayB, this]
    have hlE : lookE f.name g.abs.l = some f.e := by rw [show g.abs.l = g.l.map Fg.e from rfl, map_look, hl]; rfl
    by_cases hlong : 1048576 < f.b.length + bs.length
    · refine (append1_old_long w hfile nb bb _ hnb h2 hbb hlong).mono ?_
      rintro e w' ⟨rfl, rfl⟩
      have e1 : g.abs.append f.name bs = (3, g.abs) := by unfold St.append; rw [if_neg hd', if_neg hm', hlE]; simp only; rw [if_pos (show 1048576 < f.e.b.length + bs.length from hlong)]
      rw [e1]
      exact ⟨_, rfl, rfl, pend_no (by decide) h (Below.refl _ _)⟩
    · refine (append1_old w hfile nb bb _ hnb h2 hbb (by omega)).mono ?_
      rintro e w' ⟨rfl, v', ht⟩
      have e1 : g.abs.append f.name bs = (0, St.done { g.abs with l := putE { f.e with b := f.e.b ++ bs } g.abs.l }) := by
        unfold St.append; rw [if_neg hd', if_neg hm', hlE]; simp only; rw [if_neg (show ¬ 1048576 < f.e.b.length + bs.length from hlong)]
      rw [e1]
      exact ⟨_, rfl, rfl, pend_turn h hB ha hf ht⟩
set_option maxHeartbeats 1600000 in
theorem append_any {B sb : Nat} {g : Gs} (w : World) (h : StoreAt B w sb g) (hB : B ≤ w.heap.size) (n : List UInt8) (hn : n.length ≤ 4294967296) (v2 : Value) (bs : List UInt8) (h2 : IsB w v2 bs) (ha : g.acts < 4611686018427387904) :
    Calls Try.prog 18 #[ptr sb, str n, v2] w fun e w' => e = .returned (.int .i64 (g.abs.append n bs).1) ∧ ∃ g', g'.abs = (g.abs.append n bs).2 ∧ Step B sb w w' g g' := by
  obtain ⟨wb, hwb⟩ : ∃ wb, wb = (((w.alloc (.cells #[ptr sb] 24)).alloc (.cells #[str n] 9)).alloc (.cells #[v2] 30)).drew := ⟨_, rfl⟩
  have hbb : Below w.heap.size w wb := by rw [hwb]; exact undrew' ((((Below.refl _ _).alloc (Nat.le_refl _) _).alloc (by simp) _).alloc (by simp; omega) _)
  have hsz : wb.heap.size = w.heap.size + 3 := by rw [hwb]; simp
  have hc0 : wb.cell? ⟨w.heap.size, 0, none⟩ = some (ptr sb) := by rw [hwb]; exact (box3 _ _ _ _ _ _ _).1
  have hc1 : wb.cell? ⟨w.heap.size + 1, 0, none⟩ = some (str n) := by rw [hwb]; first | exact (box3 _ _ _ _ _ _ _).2.1 | exact (box3 _ _ _ _ _ _ _).2.2
  have hc2 : wb.cell? ⟨w.heap.size + 2, 0, none⟩ = some v2 := by rw [hwb]; exact (box3 _ _ _ _ _ _ _).2.2
  have hwl := h.below hbb
  have hf := look_pend wb hwl (by omega) n hn ha (w.heap.size + 1) (w.heap.size + 2) w.heap.size hc1 hc0 (h2.below hbb) hc2
  replace hf := hid hf
  have hc := hid fun r w1 (hp : Pend B sb wb w1 g r (g.abs.append n bs).2) => And.intro (count_of hp) (And.intro (hp.box h (Nat.le_refl _) hc0) (hp.box h (Nat.le_succ _) hc1))
  have fin := hid fun w2 g' (hs : Step B sb wb w2 g g') => And.intro ((Step.below h hbb).trans hs) (And.intro (hs.box h (Nat.le_refl _) hc0) (hs.box h (Nat.le_succ _) hc1))
  obtain ⟨_, av, cv, hv, _⟩ := h2
  rw [hv] at hwb ⊢
  have hwb' := hid hwb
  rw [hwb] at hf
  unfold ptr at hf hc fin ⊢
  unfold str at hf hc fin ⊢
  unfold ptr str at hwb'
  have hmf := mkf
  clear h hn ha hwb hbb hc0 hc1 hc2 hsz hwl
  go_enter Try.func18, Try.ntmps18
  go_wp2
  go_region_held (fun w' => w'.cell? ⟨w.heap.size, 0, none⟩ = some (.pointer (some ⟨sb, 0, none⟩)) ∧ w'.cell? ⟨w.heap.size + 1, 0, none⟩ = some (.string ⟨n.toArray⟩)) (go_keep) (first | (go_at_call 47; refine hf.out.mono ?_; rintro e w1 ⟨r, rfl, hr, hp⟩; replace hr := hid hr; rw [← hwb'.out] at hp; obtain ⟨hcc, hbox, hbox1⟩ := hc.out r w1 hp; replace hcc := hid hcc; clear hp) | (go_at_call 46; refine hcc.out.mono ?_; rintro e w2 ⟨rfl, g', hg, hs⟩; obtain ⟨hst, hbox2, hbox3⟩ := fin.out w2 g' hs; replace hg := hid (And.intro hg hst); clear hs hst))
  all_goals (go_wp2; go_ret; rw [hr.out]; exact ⟨rfl, g', hg.out.1, hg.out.2⟩)
end Go.Proofs.Ytinnegkkfaaceaa
