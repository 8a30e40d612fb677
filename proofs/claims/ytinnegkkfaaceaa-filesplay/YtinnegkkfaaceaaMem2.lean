/- What becomes of a store in memory when a file is turned in place, when a name is given a file, when a name goes. -/
import Derived.Test.YtinnegkkfaaceaaW3
namespace Go.Proofs.Ytinnegkkfaaceaa
open Go.RowKit Go.Maps Go.MapKept

theorem StoreAt.turn {B sb : Nat} {w w' : World} {g : Gs} (h : StoreAt B w sb g) {f f' : Fg} (hf : f ∈ g.l) (hn : f'.name = f.name) (hfb : f'.fb = f.fb) (hfile : FileAt w' f')
    (hk : ∀ k, k < w.heap.size → ¬ footF f k → w'.heap[k]? = w.heap[k]?) (hr : ∀ k, f'.v.ownBlock = some k → f.v.ownBlock = some k ∨ w.heap.size ≤ k) (hB : B ≤ w.heap.size) : StoreAt B w' sb { g with l := put f' g.l } := by
  have hlk : look f'.name g.l = some f := by rw [hn]; exact look_of_mem h.rising hf
  have hlen : (put f' g.l).length = g.l.length := length_put_old h.rising hlk
  obtain ⟨D, hD, hM⟩ := h.map
  have hsb : ∀ k, k = sb ∨ k = g.mb → w'.heap[k]? = w.heap[k]? := by
    rintro k (rfl | rfl)
    · exact hk _ (lt_of_block h.cell) fun e => h.sb_f hf e rfl
    · exact hk _ hD.lt fun e => h.mb_f hf e rfl
  have hdis : ∀ x ∈ g.l, x.name ≠ f.name → f'.fb ≠ x.fb ∧ ∀ k, f'.v.ownBlock = some k → x.v.ownBlock ≠ some k := by
    intro x hx hne
    obtain ⟨a1, a2⟩ := h.apart f hf x hx (Ne.symm hne)
    refine ⟨by rw [hfb]; exact a1, fun k hk' hxk => ?_⟩
    rcases hr k hk' with h1 | h1
    · exact a2 k h1 hxk
    · have := (h.files x hx).lt (.inr hxk); omega
  refine ⟨(hsb sb (.inl rfl)).trans h.cell, ⟨D, ?_, ?_⟩, ?_, ?_, rising_put h.rising, by simpa [hlen] using h.few, ?_, h.leftb⟩
  · simp only [hlen]; exact ownsMap_block hD (hsb g.mb (.inr rfl))
  · refine ⟨fun x hx z => ?_, fun n hne => ?_, by simp only [hlen]; exact hM.size⟩
    · rcases mem_put.1 hx with rfl | ⟨hx, _⟩
      · rw [hn, hfb]; exact hM.at_ f hf z
      · exact hM.at_ x hx z
    · refine hM.no n fun x hx e => ?_
      by_cases hxf : x.name = f'.name
      · exact hne f' (mem_put.2 (.inl rfl)) (hxf ▸ e)
      · exact hne x (mem_put.2 (.inr ⟨hx, hxf⟩)) e
  · intro x hx
    rcases mem_put.1 hx with rfl | ⟨hx, hne⟩
    · exact hfile
    · rw [hn] at hne
      exact (h.files x hx).keep fun k hk' => hk k ((h.files x hx).lt hk') fun e => h.two hx hf hne hk' e
  · intro x hx y hy hne
    rcases mem_put.1 hx with ex | ⟨hx', hxn⟩ <;> rcases mem_put.1 hy with ey | ⟨hy', hyn⟩
    · subst ex; subst ey; exact absurd rfl hne
    · subst ex; rw [hn] at hyn; exact hdis y hy' hyn
    · subst ey; rw [hn] at hxn
      obtain ⟨a1, a2⟩ := hdis x hx' hxn
      exact ⟨Ne.symm a1, fun k h1 h2 => a2 k h2 h1⟩
    · exact h.apart x hx' y hy' hne
  · rintro k (rfl | rfl | ⟨x, hx, hkx⟩)
    · exact h.base _ (.inl rfl)
    · exact h.base _ (.inr (.inl rfl))
    · rcases mem_put.1 hx with rfl | ⟨hx, _⟩
      · rcases hkx with rfl | hkx
        · rw [hfb]; exact h.base _ (.inr (.inr ⟨f, hf, .inl rfl⟩))
        · rcases hr k hkx with h1 | h1
          · exact h.base _ (.inr (.inr ⟨f, hf, .inr h1⟩))
          · omega
      · exact h.base _ (.inr (.inr ⟨x, hx, hkx⟩))
theorem foot_turn {sb : Nat} {g : Gs} {f f' : Fg} {n : Nat} (hf : f ∈ g.l) (hfb : f'.fb = f.fb) (hr : ∀ k, f'.v.ownBlock = some k → f.v.ownBlock = some k ∨ n ≤ k) (k : Nat) (h : foot sb { g with l := put f' g.l } k) : foot sb g k ∨ n ≤ k := by
  rcases h with h | h | ⟨x, hx, hk⟩
  · exact .inl (.inl h)
  · exact .inl (.inr (.inl h))
  · rcases mem_put.1 hx with rfl | ⟨hx, _⟩
    · rcases hk with hk | hk
      · exact .inl (.inr (.inr ⟨f, hf, .inl (by rw [hk, hfb])⟩))
      · rcases hr k hk with h1 | h1
        · exact .inl (.inr (.inr ⟨f, hf, .inr h1⟩))
        · exact .inr h1
    · exact .inl (.inr (.inr ⟨x, hx, hk⟩))
/-- a name is given a file. -/
theorem StoreAt.mapPut {B sb : Nat} {w w' : World} {g : Gs} (h : StoreAt B w sb g) {f : Fg} (hf : FileAt w f) (hfar : ∀ x ∈ g.l, x.name ≠ f.name → f.fb ≠ x.fb ∧ ∀ k, f.v.ownBlock = some k → x.v.ownBlock ≠ some k)
    (hlen : (put f g.l).length ≤ 64) (hb : ∀ k, footF f k → B ≤ k) (hmap : ∃ D n, MapOf D g.l ∧ Maps.Tidy D ∧ w'.ownsMap Try.prog 9 ptrR g.mb n (D.put (.string f.name) (.lit (.int .i64 f.fb))))
    (hk : Kept (· = g.mb) w w') : StoreAt B w' sb { g with l := put f g.l } := by
  obtain ⟨D, n, hM, hT, hD'⟩ := hmap
  have hM' := hM.put h.rising hT f
  have hblk : ∀ k, k < w.heap.size → k ≠ g.mb → w'.heap[k]? = w.heap[k]? := fun k h1 h2 => hk.block k h1 h2
  have hfm : ∀ k, footF f k → k ≠ g.mb := by
    obtain ⟨D0, hD0, _⟩ := h.map
    obtain ⟨es, c, h1⟩ := map_block hD0
    rintro k (hk | hk) e
    · rw [← e, hk, hf.cell] at h1; cases h1
    · obtain ⟨c', h2⟩ := row_block hf hk; rw [← e, h2] at h1; cases h1
  refine ⟨(hblk _ (lt_of_block h.cell) h.sb_mb).trans h.cell, ⟨_, ?_, hM'⟩, ?_, ?_, rising_put h.rising, hlen, ?_, h.leftb⟩
  · have := ownsMap_size hD'
    rw [hM'.size] at this
    exact this
  · intro x hx
    rcases mem_put.1 hx with rfl | ⟨hx, _⟩
    · exact hf.keep fun k hk => hblk k (hf.lt hk) (hfm k hk)
    · exact (h.files x hx).keep fun k hk => hblk k ((h.files x hx).lt hk) (h.mb_f hx hk)
  · intro x hx y hy hne
    rcases mem_put.1 hx with ex | ⟨hx', hxn⟩ <;> rcases mem_put.1 hy with ey | ⟨hy', hyn⟩
    · subst ex; subst ey; exact absurd rfl hne
    · subst ex; exact hfar y hy' hyn
    · subst ey
      obtain ⟨a1, a2⟩ := hfar x hx' hxn
      exact ⟨Ne.symm a1, fun k h1 h2 => a2 k h2 h1⟩
    · exact h.apart x hx' y hy' hne
  · rintro k (rfl | rfl | ⟨x, hx, hkx⟩)
    · exact h.base _ (.inl rfl)
    · exact h.base _ (.inr (.inl rfl))
    · rcases mem_put.1 hx with rfl | ⟨hx, _⟩
      · exact hb k hkx
      · exact h.base _ (.inr (.inr ⟨x, hx, hkx⟩))
/-- a name goes. -/
theorem StoreAt.mapDel {B sb : Nat} {w w' : World} {g : Gs} (h : StoreAt B w sb g) {f : Fg} (hf : f ∈ g.l) (hmap : ∃ D n, MapOf D g.l ∧ Maps.Tidy D ∧ w'.ownsMap Try.prog 9 ptrR g.mb n (D.del (.string f.name)))
    (hk : Kept (· = g.mb) w w') : StoreAt B w' sb { g with l := del f.name g.l } := by
  obtain ⟨D, n, hM, hT, hD'⟩ := hmap
  have hM' := hM.del h.rising hT hf
  have hblk : ∀ k, k < w.heap.size → k ≠ g.mb → w'.heap[k]? = w.heap[k]? := fun k h1 h2 => hk.block k h1 h2
  have hl := length_del h.rising hf rfl
  have hfew := h.few
  refine ⟨(hblk _ (lt_of_block h.cell) h.sb_mb).trans h.cell, ⟨_, ?_, hM'⟩, ?_, ?_, rising_del h.rising, ?_, ?_, h.leftb⟩
  · have := ownsMap_size hD'
    rw [hM'.size] at this
    exact this
  · intro x hx
    have hx := (mem_del.1 hx).1
    exact (h.files x hx).keep fun k hk => hblk k ((h.files x hx).lt hk) (h.mb_f hx hk)
  · intro x hx y hy hne
    exact h.apart x (mem_del.1 hx).1 y (mem_del.1 hy).1 hne
  · simp only; omega
  · rintro k (rfl | rfl | ⟨x, hx, hkx⟩)
    · exact h.base _ (.inl rfl)
    · exact h.base _ (.inr (.inl rfl))
    · exact h.base _ (.inr (.inr ⟨x, (mem_del.1 hx).1, hkx⟩))
theorem foot_del {sb : Nat} {g : Gs} {n : List UInt8} {k : Nat} (h : foot sb { g with l := del n g.l } k) : foot sb g k := by
  rcases h with h | h | ⟨x, hx, hk⟩
  · exact .inl h
  · exact .inr (.inl h)
  · exact .inr (.inr ⟨x, (mem_del.1 hx).1, hk⟩)
theorem foot_put {sb : Nat} {g : Gs} {f : Fg} {k : Nat} (h : foot sb { g with l := put f g.l } k) : foot sb g k ∨ footF f k := by
  rcases h with h | h | ⟨x, hx, hk⟩
  · exact .inl (.inl h)
  · exact .inl (.inr (.inl h))
  · rcases mem_put.1 hx with rfl | ⟨hx, _⟩
    · exact .inr hk
    · exact .inl (.inr (.inr ⟨x, hx, hk⟩))
end Go.Proofs.Ytinnegkkfaaceaa
