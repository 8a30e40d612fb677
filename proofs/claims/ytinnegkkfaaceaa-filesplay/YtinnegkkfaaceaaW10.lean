/- Contracts of the store's acts: Sync, Truncate, Remove, Rename, Append. -/
import Derived.Test.YtinnegkkfaaceaaAbs
namespace Go.Proofs.Ytinnegkkfaaceaa
open Go.RowKit Go.Maps Go.MapKept Go.Shelf

theorem Pend.pre {B sb : Nat} {w wb w1 : World} {g : Gs} {r : Int} {S : St} (h : StoreAt B w sb g) (hb : Below w.heap.size w wb) (hp : Pend B sb wb w1 g r S) : Pend B sb w w1 g r S := by
  rcases hp with ⟨h0, h1, h2⟩ | ⟨h0, g1, h1, h2, h3⟩
  · exact .inl ⟨h0, h1, (Step.below h hb).trans h2⟩
  · exact .inr ⟨h0, g1, h1, h2, (Step.below h hb).trans h3⟩
theorem pend_no {B sb : Nat} {w w1 : World} {g : Gs} {r : Int} (hr : r ≠ 0) (h : StoreAt B w sb g) (hb : Below w.heap.size w w1) : Pend B sb w w1 g r g.abs := .inl ⟨hr, rfl, Step.below h hb⟩
theorem drawn_below (w : World) (q : Nat) : Below w.heap.size w (w.drewN q) := ⟨rfl, rfl, rfl, Nat.le_refl _, fun _ _ => rfl⟩
theorem drew_below (w : World) : Below w.heap.size w w.drew := ⟨rfl, rfl, rfl, Nat.le_refl _, fun _ _ => rfl⟩
theorem find_pend {B sb : Nat} {g : Gs} (w : World) (h : StoreAt B w sb g) (n : List UInt8) (hn : n.length ≤ maxLen) (k : Nat) (lb : Array Value) (ek : Enters Try.prog k) (K : Ent → Int × St)
    (hit : ∀ f, look n g.l = some f → Calls Try.prog k (#[ptr f.fb] ++ lb) (boxed w k lb) fun e w' => ∃ r : Int, e = .returned (.int .i64 r) ∧ r = (K f.e).1 ∧ Pend B sb (boxed w k lb) w' g r (K f.e).2) :
    Calls Try.prog 40 #[ptr sb, str n, .func (.func k) #[] lb] w fun e w' => ∃ r : Int, e = .returned (.int .i64 r) ∧ r = (g.abs.with n K).1 ∧ Pend B sb w w' g r (g.abs.with n K).2 := by
  have hbx := boxed_below w k lb
  by_cases hd : g.left = 0
  · refine (find_dead w h hd n k lb).mono ?_
    rintro e w' ⟨rfl, rfl⟩
    have e1 : g.abs.with n K = (30, g.abs) := by unfold St.with; rw [if_pos (show g.abs.left = 0 from hd)]
    rw [e1]
    exact ⟨_, rfl, rfl, pend_no (by decide) h hbx⟩
  · cases hl : look n g.l with
    | none =>
      refine (find_miss w h hd n hn k lb hl).mono ?_
      rintro e w' ⟨rfl, rfl⟩
      have e1 : g.abs.with n K = (31, g.abs) := by
        unfold St.with; rw [if_neg (show ¬ g.abs.left = 0 from hd)]
        rw [show g.abs.l = g.l.map Fg.e from rfl, map_look, hl]; rfl
      rw [e1]
      exact ⟨_, rfl, rfl, pend_no (by decide) h hbx⟩
    | some f =>
      have e1 : g.abs.with n K = K f.e := by
        unfold St.with; rw [if_neg (show ¬ g.abs.left = 0 from hd)]
        rw [show g.abs.l = g.l.map Fg.e from rfl, map_look, hl]; rfl
      rw [e1]
      refine (find_hit w h hd n hn k lb ek hl (fun r w' => r = (K f.e).1 ∧ Pend B sb (boxed w k lb) w' g r (K f.e).2) (hit f hl)).mono ?_
      rintro e w' ⟨r, rfl, h1, h2⟩
      exact ⟨r, rfl, h1, h2.pre h hbx⟩
/-- a file that is turned, ahead of count. -/
theorem pend_turn {B sb : Nat} {w w1 : World} {g : Gs} (h : StoreAt B w sb g) (hB : B ≤ w.heap.size) (ha : g.acts < 4611686018427387904) {f f' : Fg} (hf : f ∈ g.l) (ht : Turned w w1 f f') : Pend B sb w w1 g 0 (St.done { g.abs with l := putE f'.e g.abs.l }) := by
  refine .inr ⟨rfl, { g with l := put f' g.l }, ?_, ha, Step.turn h hB hf ht⟩
  simp only [Gs.abs, map_put]
theorem le_boxed {B : Nat} {w : World} (h : B ≤ w.heap.size) (k : Nat) (lb : Array Value) : B ≤ (boxed w k lb).heap.size := by rw [boxed_size]; omega
theorem e55 : Enters Try.prog 55 := enters_of Try.func55 (by kernel_rfl) rfl
theorem e56 : Enters Try.prog 56 := enters_of Try.func56 (by kernel_rfl) rfl
theorem e57 : Enters Try.prog 57 := enters_of Try.func57 (by kernel_rfl) rfl
theorem e58 : Enters Try.prog 58 := enters_of Try.func58 (by kernel_rfl) rfl
theorem e48 : Enters Try.prog 48 := enters_of Try.func48 (by kernel_rfl) rfl
theorem e41 : Enters Try.prog 41 := enters_of Try.func41 (by kernel_rfl) rfl
theorem e44 : Enters Try.prog 44 := enters_of Try.func44 (by kernel_rfl) rfl
theorem e45 : Enters Try.prog 45 := enters_of Try.func45 (by kernel_rfl) rfl

set_option maxHeartbeats 1000000 in
theorem sync_any {B sb : Nat} {g : Gs} (w : World) (h : StoreAt B w sb g) (hB : B ≤ w.heap.size) (n : List UInt8) (hn : n.length ≤ maxLen) (ha : g.acts < 4611686018427387904) :
    Calls Try.prog 25 #[ptr sb, str n] w fun e w' => e = .returned (.int .i64 (g.abs.sync n).1) ∧ ∃ g', g'.abs = (g.abs.sync n).2 ∧ Step B sb w w' g g' := by
  have hf := find_pend w h n hn 55 #[] e55 (fun f => (0, St.done { g.abs with l := putE { f with s := f.b.length } g.abs.l })) (fun f hl => by
    obtain ⟨hf, _⟩ := look_some hl
    have h1 := h.below (boxed_below w 55 #[])
    refine (sync1 _ (h1.files f hf)).mono ?_
    rintro e w' ⟨rfl, ht⟩
    exact ⟨0, rfl, rfl, pend_turn h1 (le_boxed hB _ _) ha hf ht⟩)
  have hf := hid hf
  change Hid (Calls _ _ _ _ fun e w' => ∃ r : Int, e = .returned (.int .i64 r) ∧ r = (g.abs.sync n).1 ∧ Pend B sb w w' g r (g.abs.sync n).2) at hf
  have hc := hid fun r w1 (hp : Pend B sb w w1 g r (g.abs.sync n).2) => count_of hp
  unfold ptr at hf hc ⊢
  unfold str at hf ⊢
  clear h hn hB ha
  go_enter Try.func25, Try.ntmps25
  go_wp2_with (go_at_call 40; refine hf.out.mono ?_; rintro e w1 ⟨r, rfl, hr, hp⟩; replace hr := hid hr; have hc := hid (hc.out r w1 hp))
  go_wp2_with (go_at_call 46; refine hc.out.mono ?_; rintro e w2 ⟨rfl, hg⟩; have hg := hid hg)
  go_ret
  rw [hr.out]
  exact ⟨rfl, hg.out⟩
set_option maxHeartbeats 1000000 in
theorem truncate_any {B sb : Nat} {g : Gs} (w : World) (h : StoreAt B w sb g) (hB : B ≤ w.heap.size) (n : List UInt8) (hn : n.length ≤ maxLen) (k : Int) (ha : g.acts < 4611686018427387904) :
    Calls Try.prog 26 #[ptr sb, str n, .int .i64 k] w fun e w' => e = .returned (.int .i64 (g.abs.truncate n k).1) ∧ ∃ g', g'.abs = (g.abs.truncate n k).2 ∧ Step B sb w w' g g' := by
  obtain ⟨wb, hwb⟩ : ∃ wb, wb = w.alloc (.cells #[.int .i64 k] 3) := ⟨_, rfl⟩
  have hbb : Below w.heap.size w wb := by rw [hwb]; exact (Below.refl _ _).alloc (Nat.le_refl _) _
  have hck : wb.cell? ⟨w.heap.size, 0, none⟩ = some (.int .i64 k) := by rw [hwb]; simp
  have hsz : wb.heap.size = w.heap.size + 1 := by rw [hwb]; simp
  have hwl := h.below hbb
  have hf := find_pend wb hwl n hn 56 #[ptr w.heap.size] e56 (fun f => if k < 0 ∨ (f.b.length : Int) < k then (2, g.abs) else (0, St.done { g.abs with l := putE { f with b := f.b.take k.toNat, s := min f.s k.toNat } g.abs.l })) (fun f hl => by
    obtain ⟨hf, _⟩ := look_some hl
    have hbx := boxed_below wb 56 #[ptr w.heap.size]
    have h1 := hwl.below hbx
    have hc1 : (boxed wb 56 #[ptr w.heap.size]).cell? ⟨w.heap.size, 0, none⟩ = some (.int .i64 k) := (hbx.cell (p := ⟨w.heap.size, 0, none⟩) (by show w.heap.size < wb.heap.size; omega)).trans hck
    by_cases hk : k < 0 ∨ (f.b.length : Int) < k
    · refine (truncate1_bad _ (h1.files f hf) w.heap.size k hc1 hk).mono ?_
      rintro e w' ⟨rfl, q, rfl⟩
      have hk' : k < 0 ∨ (f.e.b.length : Int) < k := hk
      rw [if_pos hk']
      exact ⟨2, rfl, rfl, pend_no (by decide) h1 (drawn_below _ q)⟩
    · obtain ⟨m, rfl⟩ : ∃ m : Nat, k = m := ⟨k.toNat, by omega⟩
      have hk' : ¬ ((m : Int) < 0 ∨ (f.e.b.length : Int) < m) := hk
      rw [if_neg hk']
      refine (truncate1 _ (h1.files f hf) w.heap.size m hc1 (by omega)).mono ?_
      rintro e w' ⟨rfl, v', ht⟩
      refine ⟨0, rfl, rfl, ?_⟩
      have := pend_turn h1 (le_boxed (by omega) _ _) ha hf ht
      exact this)
  have hf := hid hf
  change Hid (Calls _ _ _ _ fun e w' => ∃ r : Int, e = .returned (.int .i64 r) ∧ r = (g.abs.truncate n k).1 ∧ Pend B sb wb w' g r (g.abs.truncate n k).2) at hf
  have hc := hid fun r w1 (hp : Pend B sb wb w1 g r (g.abs.truncate n k).2) => count_of hp
  have fin := hid fun w2 g' (hs : Step B sb wb w2 g g') => (Step.below h hbb).trans hs
  have hwb' := hid hwb
  rw [hwb] at hf
  unfold ptr at hf hc ⊢
  unfold str at hf ⊢
  have hmf := mkf
  clear h hn hB ha hwb hbb hck hsz hwl
  go_enter Try.func26, Try.ntmps26
  go_wp2_with (go_at_call 40; refine hf.out.mono ?_; rintro e w1 ⟨r, rfl, hr, hp⟩; replace hr := hid hr; rw [← hwb'.out] at hp; have hc := hid (hc.out r w1 hp))
  go_wp2_with (go_at_call 46; refine hc.out.mono ?_; rintro e w2 ⟨rfl, hg⟩; have hg := hid hg)
  go_ret
  rw [hr.out]
  obtain ⟨g', h1, h2⟩ := hg.out
  exact ⟨rfl, g', h1, fin.out _ _ h2⟩
end Go.Proofs.Ytinnegkkfaaceaa
