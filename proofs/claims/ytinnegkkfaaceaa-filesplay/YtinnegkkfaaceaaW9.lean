/- Contracts of the function that Append hands to look. -/
import Derived.Test.YtinnegkkfaaceaaW8
namespace Go.Proofs.Ytinnegkkfaaceaa
open Go.RowKit Go.Maps Go.MapKept Go.Shelf

set_option maxHeartbeats 1000000 in
theorem append1_bad (w : World) (n : List UInt8) (hn : n.length ≤ 4294967296) (hm : mayB n = false) (nb : Nat) (c d : Value) (hnb : w.cell? ⟨nb, 0, none⟩ = some (str n)) :
    Calls Try.prog 48 #[.pointer none, ptr nb, c, d] w fun e w' => e = .returned (.int .i64 2) ∧ w' = w := by
  have hmb := mayBe_any w n hn
  rw [hm] at hmb
  have hmb := hid hmb
  unfold ptr
  unfold str at hnb hmb
  clear hm hn
  go_enter Try.func48, Try.ntmps48
  go_wp2_with (go_at_call 49; refine hmb.out.mono ?_; rintro e w' ⟨rfl, rfl⟩)
  go_ret
  exact ⟨rfl, rfl⟩
set_option maxHeartbeats 1000000 in
theorem append1_new_long (w : World) (n : List UInt8) (hm : mayB n = true) (nb bb : Nat) (d : Value) (hnb : w.cell? ⟨nb, 0, none⟩ = some (str n)) {v2 : Value} {bs : List UInt8} (h2 : IsB w v2 bs) (hbb : w.cell? ⟨bb, 0, none⟩ = some v2) (hl : 1048576 < bs.length) :
    Calls Try.prog 48 #[.pointer none, ptr nb, ptr bb, d] w fun e w' => e = .returned (.int .i64 3) ∧ w' = w := by
  have hn : 1 ≤ n.length ∧ n.length ≤ 32 := by simpa [mayB] using hm
  have hmb := mayBe_any w n (by omega)
  rw [hm] at hmb
  have hmb := hid hmb
  obtain ⟨hml, av, cv, rfl, _⟩ := h2
  unfold maxLen at hml
  unfold ptr
  unfold str at hnb hmb
  clear hm hn
  have hl' : (1048576 : Int) < (bs.length : Int) := by omega
  go_enter Try.func48, Try.ntmps48
  go_wp2_with (go_at_call 49; refine hmb.out.mono ?_; rintro e w' ⟨rfl, rfl⟩)
  go_ret
  exact ⟨rfl, rfl⟩
set_option maxHeartbeats 1000000 in
theorem append1_full {B sb : Nat} {g : Gs} (w : World) (h : StoreAt B w sb g) (n : List UInt8) (hm : mayB n = true) (nb bb cb : Nat) (hnb : w.cell? ⟨nb, 0, none⟩ = some (str n)) (hcb : w.cell? ⟨cb, 0, none⟩ = some (ptr sb)) {v2 : Value} {bs : List UInt8} (h2 : IsB w v2 bs) (hbb : w.cell? ⟨bb, 0, none⟩ = some v2) (hl : bs.length ≤ 1048576) (hf : 64 ≤ g.l.length) :
    Calls Try.prog 48 #[.pointer none, ptr nb, ptr bb, ptr cb] w fun e w' => e = .returned (.int .i64 4) ∧ w' = w := by
  have hn : 1 ≤ n.length ∧ n.length ≤ 32 := by simpa [mayB] using hm
  have hmb := mayBe_any w n (by omega)
  rw [hm] at hmb
  have hmb := hid hmb
  have c0 : w.cell? ⟨sb, 0, none⟩ = some (.map (some g.mb)) := by rw [cell_of h.cell]; rfl
  obtain ⟨D, hD, hM⟩ := h.map
  have hlen : ∀ ty, (Builtin.len_ #[50] ty #[.map (some g.mb)]).run Try.prog w = .ok (.int .i64 (g.l.length : Int)) w := fun ty => by
    rw [hD.len Try.underlying50 ty, hM.size]
  have hfew := h.few
  have hf64 : g.l.length = 64 := by omega
  rw [hf64] at hlen
  obtain ⟨hml, av, cv, rfl, _⟩ := h2
  unfold ptr at hcb ⊢
  unfold str at hnb hmb
  clear hm hn h hf64 hD hM hfew
  have hl' : ¬ (1048576 : Int) < (bs.length : Int) := by omega
  go_enter Try.func48, Try.ntmps48
  go_wp2_with (go_at_call 49; refine hmb.out.mono ?_; rintro e w' ⟨rfl, rfl⟩)
  go_ret
  exact ⟨rfl, rfl⟩
set_option maxHeartbeats 1000000 in
theorem append1_old_long (w : World) {f : Fg} (h : FileAt w f) (nb bb : Nat) (d : Value) (hnb : w.cell? ⟨nb, 0, none⟩ = some (str f.name)) {v2 : Value} {bs : List UInt8} (h2 : IsB w v2 bs) (hbb : w.cell? ⟨bb, 0, none⟩ = some v2) (hl : 1048576 < f.b.length + bs.length) :
    Calls Try.prog 48 #[ptr f.fb, ptr nb, ptr bb, d] w fun e w' => e = .returned (.int .i64 3) ∧ w' = w := by
  have hn := h.nm
  have hbig := h.big
  have hmb := mayBe_any w f.name (by omega)
  rw [show mayB f.name = true by simpa [mayB] using hn] at hmb
  have hmb := hid hmb
  obtain ⟨av, cv, hv⟩ := row_slice h.row
  have c0 : w.cell? ⟨f.fb, 0, none⟩ = some (.slice av f.b.length cv) := by rw [cell_of h.cell, hv]; rfl
  obtain ⟨hml, av2, cv2, rfl, _⟩ := h2
  unfold maxLen at hml
  unfold ptr
  unfold str at hnb hmb
  have hl' : 1048576 - (f.b.length : Int) < (bs.length : Int) := by omega
  clear h hv hn
  go_enter Try.func48, Try.ntmps48
  go_wp2_with (go_at_call 49; refine hmb.out.mono ?_; rintro e w' ⟨rfl, rfl⟩)
  go_ret
  exact ⟨rfl, rfl⟩
set_option maxHeartbeats 2000000 in
theorem append1_old (w : World) {f : Fg} (h : FileAt w f) (nb bb : Nat) (d : Value) (hnb : w.cell? ⟨nb, 0, none⟩ = some (str f.name)) {v2 : Value} {bs : List UInt8} (h2 : IsB w v2 bs) (hbb : w.cell? ⟨bb, 0, none⟩ = some v2) (hl : f.b.length + bs.length ≤ 1048576) :
    Calls Try.prog 48 #[ptr f.fb, ptr nb, ptr bb, d] w fun e w' => e = .returned (.int .i64 0) ∧ ∃ v', Turned w w' f { f with b := f.b ++ bs, v := v' } := by
  have hn := h.nm
  have hbig := h.big
  have hmb := mayBe_any w f.name (by omega)
  rw [show mayB f.name = true by simpa [mayB] using hn] at hmb
  have hmb := hid hmb
  obtain ⟨av, cv, hv⟩ := row_slice h.row
  have c0 : w.cell? ⟨f.fb, 0, none⟩ = some (.slice av f.b.length cv) := by rw [cell_of h.cell, hv]; rfl
  have z0 : w.frozen? ⟨f.fb, 0, none⟩ = false := frozen_of h.cell 0
  have hlt : f.fb < w.heap.size := lt_of_block h.cell
  obtain ⟨a', c', w1, hrun, hown, hgr, hat⟩ := app_run (w := w.drew) (base := 0) (v := f.v) (v2 := v2) (b := f.b) (bs := bs) h.row h2 (by omega) (Nat.zero_le _)
  have hfne : some f.fb ≠ f.v.ownBlock := fun e => h.fb_row h e.symm rfl
  have hblk : w1.heap[f.fb]? = w.heap[f.fb]? := hgr.block f.fb hlt hfne
  have d0 : w1.cell? ⟨f.fb, 0, none⟩ = some (.slice av f.b.length cv) := (World.cell?_of_block (a := ⟨f.fb, 0, none⟩) hblk).trans c0
  have y0 : w1.frozen? ⟨f.fb, 0, none⟩ = false := (World.frozen?_of_block (a := ⟨f.fb, 0, none⟩) hblk).trans z0
  have fin : Hid (Turned w (w1.setCell ⟨f.fb, 0, none⟩ (.slice a' (f.b.length + bs.length) c')) f { f with b := f.b ++ bs, v := .slice a' (f.b.length + bs.length) c' }) := by
    have hk : Kept (footF f) w w1 := by
      have := kept_of_grown (F := footF f) hgr fun k e => .inr e
      exact ⟨this.os, this.tape, this.output, this.size, this.block⟩
    refine turned_bytes0 h hk hblk (by simpa using hown) (fun k hk => ?_) (by simpa using hl) (by have := h.syn; simp; omega)
    rcases hat with e | e
    · exact .inl (by rw [← e]; exact hk)
    · rw [hk] at e; exact .inr (by injection e with e; rw [e]; exact Nat.le_refl _)
  obtain ⟨hml, av2, cv2, rfl, _⟩ := h2
  rw [hv] at hrun
  unfold ptr
  unfold str at hnb hmb
  have hl' : ¬ 1048576 - (f.b.length : Int) < (bs.length : Int) := by omega
  clear h hv hn hgr hown hat hblk
  go_enter Try.func48, Try.ntmps48
  go_wp2_with (go_at_call 49; refine hmb.out.mono ?_; rintro e w' ⟨rfl, rfl⟩)
  go_region_law (refine step_append rfl (.tmp 48) (.tmp 49) 30 rfl _ _ _ _ (by simp [Act.eval]) (by simp [Act.eval]) hrun ?_)
  all_goals (go_wp2; go_ret; exact ⟨rfl, _, fin.out⟩)
/-- what a call did to a store. -/
structure Step (B sb : Nat) (w w' : World) (g g' : Gs) : Prop where
  store : StoreAt B w' sb g'
  kept : Kept (foot sb g) w w'
  fresh : ∀ k, foot sb g' k → foot sb g k ∨ w.heap.size ≤ k
theorem Step.trans {B sb : Nat} {w w1 w2 : World} {g g1 g2 : Gs} (a : Step B sb w w1 g g1) (b : Step B sb w1 w2 g1 g2) : Step B sb w w2 g g2 :=
  ⟨b.store, a.kept.trans b.kept a.fresh, fun k hk => (b.fresh k hk).elim (a.fresh k) fun h => .inr (Nat.le_trans a.kept.size h)⟩
theorem Step.below {B sb : Nat} {w w1 : World} {g : Gs} (h : StoreAt B w sb g) (hb : Below w.heap.size w w1) : Step B sb w w1 g g :=
  ⟨h.below hb, kept_of_below hb, fun _ hk => .inl hk⟩
theorem Step.turn {B sb : Nat} {w w1 : World} {g : Gs} (h : StoreAt B w sb g) (hB : B ≤ w.heap.size) {f f' : Fg} (hf : f ∈ g.l) (ht : Turned w w1 f f') : Step B sb w w1 g { g with l := put f' g.l } :=
  ⟨h.turn hf ht.name ht.fb ht.file ht.kept.block ht.row hB, ht.kept.mono fun _ _ hk => .inr (.inr ⟨f, hf, hk⟩), foot_turn hf ht.fb ht.row⟩
theorem put_put {f f' : Fg} {l : List Fg} (hr : Rising l) (hn : f'.name = f.name) : put f' (put f l) = put f' l := by
  refine rising_ext (rising_put (rising_put hr)) (rising_put hr) fun x => ?_
  rw [mem_put, mem_put, mem_put]
  constructor
  · rintro (h | ⟨h | h, h'⟩)
    · exact .inl h
    · subst h; exact absurd hn.symm h'
    · exact .inr ⟨h.1, h'⟩
  · rintro (h | ⟨h, h'⟩)
    · exact .inl h
    · exact .inr ⟨.inr ⟨h, by rw [← hn]; exact h'⟩, h'⟩
set_option maxHeartbeats 4000000 in
theorem append1_new {B sb : Nat} {g : Gs} (w : World) (h : StoreAt B w sb g) (hB : B ≤ w.heap.size) (n : List UInt8) (hm : mayB n = true) (hlk : look n g.l = none) (nb bb cb : Nat) (hnb : w.cell? ⟨nb, 0, none⟩ = some (str n)) (hcb : w.cell? ⟨cb, 0, none⟩ = some (ptr sb)) {v2 : Value} {bs : List UInt8} (h2 : IsB w v2 bs) (hbb : w.cell? ⟨bb, 0, none⟩ = some v2) (hl : bs.length ≤ 1048576) (hf : g.l.length < 64) :
    Calls Try.prog 48 #[.pointer none, ptr nb, ptr bb, ptr cb] w fun e w' => e = .returned (.int .i64 0) ∧ ∃ fb v', Step B sb w w' g { g with l := put ⟨n, bs, 0, fb, v'⟩ g.l } := by
  have hn : 1 ≤ n.length ∧ n.length ≤ 32 := by simpa [mayB] using hm
  have hmb := mayBe_any w n (by omega)
  rw [hm] at hmb
  have hmb := hid hmb
  have c0 : w.cell? ⟨sb, 0, none⟩ = some (.map (some g.mb)) := by rw [cell_of h.cell]; rfl
  obtain ⟨D, hD, hM⟩ := h.map
  have hlen : ∀ ty, (Builtin.len_ #[50] ty #[.map (some g.mb)]).run Try.prog w = .ok (.int .i64 (g.l.length : Int)) w := fun ty => by
    rw [hD.len Try.underlying50 ty, hM.size]
  -- the new file's struct, and the name given to it
  obtain ⟨wa, hwa⟩ : ∃ wa, wa = w.alloc (.cells #[.slice none 0 0, .int .i64 0] 76) := ⟨_, rfl⟩
  have hba : Below w.heap.size w wa := by rw [hwa]; exact (Below.refl _ _).alloc (Nat.le_refl _) _
  have hsa : wa.heap.size = w.heap.size + 1 := by rw [hwa]; simp
  have ha := h.below hba
  have hfa : FileAt wa ⟨n, [], 0, w.heap.size, .slice none 0 0⟩ := by
    refine ⟨?_, World.ownsRow_nil _ _ _ _, Nat.le_refl _, by simp, hn⟩
    rw [hwa]; exact (MapKept.heap_alloc w _).1
  have hput := put_any wa ha n (by omega) w.heap.size
  have step : Hid (∀ w2, MapPut w2 g n w.heap.size → Kept (· = g.mb) wa w2 → ∃ a' c' w3, (∀ ty, (Builtin.append_ #[30, 30] ty #[.slice none 0 0, v2]).run Try.prog w2.drew = .ok (.slice a' bs.length c') w3) ∧
      w2.cell? ⟨w.heap.size, 0, none⟩ = some (.slice none 0 0) ∧ w2.cell? ⟨bb, 0, none⟩ = some v2 ∧ w3.cell? ⟨w.heap.size, 0, none⟩ = some (.slice none 0 0) ∧ w3.frozen? ⟨w.heap.size, 0, none⟩ = false ∧ Step B sb w (w3.setCell ⟨w.heap.size, 0, none⟩ (.slice a' bs.length c')) g { g with l := put ⟨n, bs, 0, w.heap.size, .slice a' bs.length c'⟩ g.l }) := by
    intro w2 hmp hk2
    obtain ⟨D', hD', _⟩ := ha.map
    obtain ⟨es, ck, hmap⟩ := map_block hD'
    have mbk : ∀ b o u, wa.cell? ⟨b, o, none⟩ = some u → w2.cell? ⟨b, o, none⟩ = some u := by
      intro b o u hu
      have hne : b ≠ g.mb := by intro e; subst e; simp [World.cell?, hmap] at hu
      exact (World.cell?_of_block (a := ⟨b, o, none⟩) (hk2.block b (World.block_lt_of_cell? wa ⟨b, o, none⟩ hu) hne)).trans hu
    have hs2 : StoreAt B w2 sb { g with l := put ⟨n, [], 0, w.heap.size, .slice none 0 0⟩ g.l } := by
      refine StoreAt.mapPut (f := ⟨n, [], 0, w.heap.size, .slice none 0 0⟩) ha hfa (fun x hx _ => ⟨?_, fun k hk => by cases hk⟩) ?_ ?_ hmp hk2
      · intro e; have := (h.files x hx).lt (.inl rfl); simp only at e; omega
      · rw [length_put_new hlk]; omega
      · rintro k (rfl | hk)
        · exact hB
        · cases hk
    have hmem : (⟨n, [], 0, w.heap.size, .slice none 0 0⟩ : Fg) ∈ put ⟨n, [], 0, w.heap.size, .slice none 0 0⟩ g.l := mem_put.2 (.inl rfl)
    have hf2 := hs2.files _ hmem
    have hsz2 : w.heap.size < w2.heap.size := by have := hk2.size; omega
    obtain ⟨a', c', w3, hrun, hown, hgr, hat⟩ := app_run (w := w2.drew) (base := 0) (v := .slice none 0 0) (v2 := v2) (b := []) (bs := bs) hf2.row ((h2.below hba).kept mbk) (by simp; omega) (Nat.zero_le _)
    simp only [List.length_nil, Nat.zero_add, List.nil_append] at hrun hown hat
    have hblk : w3.heap[w.heap.size]? = w2.heap[w.heap.size]? := hgr.block _ hsz2 (by simp [Value.ownBlock])
    have hcell3 : w3.heap[w.heap.size]? = some (.cells #[.slice none 0 0, .int .i64 (0 : Nat)] 76) := hblk.trans hf2.cell
    refine ⟨a', c', w3, hrun, by rw [cell_of hf2.cell]; rfl, mbk _ _ _ ((hba.cell (p := ⟨bb, 0, none⟩) (World.block_lt_of_cell? w ⟨bb, 0, none⟩ hbb)).trans hbb), by rw [cell_of hcell3]; rfl, frozen_of hcell3 0, ?_⟩
    have hk3 : Kept (footF ⟨n, [], 0, w.heap.size, .slice none 0 0⟩) w2 w3 := by
      have := kept_of_grown (F := footF ⟨n, [], 0, w.heap.size, .slice none 0 0⟩) hgr fun k e => by cases e
      exact ⟨this.os, this.tape, this.output, this.size, this.block⟩
    have ht : Turned w2 (w3.setCell ⟨w.heap.size, 0, none⟩ (.slice a' bs.length c')) ⟨n, [], 0, w.heap.size, .slice none 0 0⟩ ⟨n, bs, 0, w.heap.size, .slice a' bs.length c'⟩ := by
      refine turned_bytes0 (f := ⟨n, [], 0, w.heap.size, .slice none 0 0⟩) (b' := bs) hf2 hk3 hblk hown (fun k hk => ?_) hl (Nat.zero_le _)
      rcases hat with e | e
      · rw [hk] at e; cases e
      · rw [hk] at e; exact .inr (by injection e with e; rw [e]; exact Nat.le_refl _)
    have st := Step.turn hs2 (by omega) hmem ht
    simp only [put_put h.rising (f := ⟨n, [], 0, w.heap.size, .slice none 0 0⟩) (f' := ⟨n, bs, 0, w.heap.size, .slice a' bs.length c'⟩) rfl] at st
    have s0 : Step B sb w w2 g { g with l := put ⟨n, [], 0, w.heap.size, .slice none 0 0⟩ g.l } := by
      refine ⟨hs2, (kept_of_below (F := foot sb g) hba).trans hk2 fun k e => .inl (.inr (.inl e)), fun k hk => ?_⟩
      rcases foot_put hk with hk | hk
      · exact .inl hk
      · rcases hk with rfl | hk
        · exact .inr (Nat.le_refl _)
        · cases hk
    exact s0.trans st
  have hput := hid hput
  rw [hwa] at hput
  have hwa' := hid hwa
  obtain ⟨hml, av, cv, rfl, _⟩ := h2
  unfold ptr at hcb hput ⊢
  unfold str at hnb hmb hput
  clear hm hn h hD hM hwa ha hfa hba hsa
  have hl' : ¬ (1048576 : Int) < (bs.length : Int) := by omega
  have hf' : ¬ (64 : Int) ≤ (g.l.length : Int) := by omega
  have hcbl : cb < w.heap.size := World.block_lt_of_cell? w ⟨cb, 0, none⟩ hcb
  have hnbl : nb < w.heap.size := World.block_lt_of_cell? w ⟨nb, 0, none⟩ hnb
  go_enter Try.func48, Try.ntmps48
  go_wp2_with (first | (go_at_call 49; refine hmb.out.mono ?_; rintro e w' ⟨rfl, rfl⟩) | (go_at_call 50; refine hput.out.mono ?_; rintro e w2 ⟨rfl, hmp, hk2⟩; rw [← hwa'.out] at hk2; obtain ⟨a', c', w3, hrun, k0, k1, k2, k3, hst⟩ := step.out w2 hmp hk2; have hst := hid hst))
  go_region_law (refine step_append rfl (.tmp 48) (.tmp 49) 30 rfl _ _ _ _ (by simp [Act.eval]) (by simp [Act.eval]) hrun ?_)
  all_goals (go_wp2; go_ret; exact ⟨rfl, _, _, hst.out⟩)
end Go.Proofs.Ytinnegkkfaaceaa
