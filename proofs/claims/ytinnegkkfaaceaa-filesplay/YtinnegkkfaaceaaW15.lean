/- Contract of Crash: the walk. -/
import Derived.Test.YtinnegkkfaaceaaCrash
import Derived.Laws.Small
namespace Go.Proofs.Ytinnegkkfaaceaa
open Go.RowKit Go.Maps Go.MapKept Go.Shelf

theorem names_length (l : List Fg) : (names l).length = l.length := by simp [names]
/-- Names of a store with files: a row of strings in new memory. -/
theorem names_some {B sb : Nat} {g : Gs} (w : World) (h : StoreAt B w sb g) (h0 : 0 < g.l.length) :
    Calls Try.prog 19 #[ptr sb] w fun e w' => ∃ nb c, e = .returned (.slice (some ⟨nb, 0, none⟩) g.l.length c) ∧ w.heap.size ≤ nb ∧ nb < w'.heap.size ∧ (∀ k (hk : k < g.l.length), w'.cell? ⟨nb, k, none⟩ = some (str (g.l[k]).name)) ∧ Below w.heap.size w w' := by
  refine (names_any w h).mono ?_
  rintro e w' ⟨a, c, rfl, hrow, hb⟩
  rw [names_length] at hrow
  rcases hrow.2 with ⟨e1, e2⟩ | ⟨nb, cap, cur, e1, h1, h2, _⟩
  · omega
  · cases e1
    refine ⟨nb, c, by rw [names_length], h1, lt_of_block h2, fun k hk => ?_, hb⟩
    have := hrow.cells (g := nb) rfl k (str (g.l[k]).name) (by simp [names, hk])
    rwa [Addr.add_lit, Nat.zero_add] at this
set_option maxHeartbeats 4000000 in
theorem crash_some {B sb : Nat} {g : Gs} (w : World) (h : StoreAt B w sb g) (hB : B ≤ w.heap.size) (v : Value) (keep : List Int) (hI : IsI w v keep) (hv : keep ≠ [] → ∀ b, v.ownBlock = some b → ¬ foot sb g b) (h0 : 0 < g.l.length) :
    Calls Try.prog 22 #[ptr sb, v] w fun e w' => e = .returned (.tuple #[]) ∧ ∃ g', g'.abs = g.abs.crash keep ∧ Step B sb w w' g g' := by
  have hm := hid (made_yes w h)
  have hnm := hid (names_some w h h0)
  have hfew := h.few
  obtain ⟨av, cv, hvv⟩ : ∃ a c, v = .slice a keep.length c := by obtain ⟨_, _, a, c, e, _⟩ := hI; exact ⟨a, c, e⟩
  have HI := hid hI
  have HV := hid hv
  have HH := hid h
  rw [hvv] at HI HV ⊢
  unfold ptr at hm hnm ⊢
  clear h hI hv hvv
  go_enter Try.func22, Try.ntmps22
  go_wp2_with (first | (go_at_call 51; refine hm.out.mono ?_; rintro e w' ⟨rfl, hw⟩; have hw' := hw.symm; subst hw'; clear hw) | (go_at_call 19; refine hnm.out.mono ?_; rintro e w1 ⟨nb, nc, rfl, hn1, hn2, hn3, hb⟩; replace hn3 := hid hn3; replace hb := hid hb))
  go_loopw [1, 15] (fun kp i wr => ∃ (k : Nat) (g' : Gs) (ks : List Int) (a : Option Addr) (c : Nat), k ≤ g.l.length ∧ i = .int .i64 k ∧ kp = .slice a ks.length c ∧ Gone B sb w1 wr g g' keep k ks ∧ IsI wr (.slice a ks.length c) ks ∧ (ks ≠ [] → ∀ b, (Value.slice a ks.length c).ownBlock = some b → b < w1.heap.size ∧ ¬ foot sb g b)) (fun _ i _ => g.l.length - (intOf i).toNat)
  case atStart => exact ⟨0, g, keep, av, cv, by omega, rfl, rfl, Gone.start (HH.out.below hb.out), HI.out.kept (fun _ b _ hl => hb.out.block b hl), fun hne b e => ⟨Nat.lt_of_lt_of_le (HI.out.lt hne e) hb.out.size, HV.out hne b e⟩⟩
  case round =>
    rename_i wr
    obtain ⟨k, g', ks, a, c, hk, rfl, rfl, hg, hi, hvb⟩ := hrel
    replace hg := hid hg
    replace hi := hid hi
    replace hvb := hid hvb
    by_cases hlt : k < g.l.length
    · have hlt' : (k : Int) < (g.l.length : Int) := by omega
      obtain ⟨f, hf, hfe, hfn, hlk⟩ := hg.out.here hlt
      have hst := hg.out.step
      have hnc : wr.cell? ⟨nb, k, none⟩ = some (str f.name) := by
        rw [hfn]
        have hnb : nb < w1.heap.size := hn2
        exact (World.cell?_of_block (a := ⟨nb, k, none⟩) (hst.kept.block nb hnb fun e => by have := HH.out.lt e; omega)).trans (hn3.out k hlt)
      have c0 : wr.cell? ⟨sb, 0, none⟩ = some (.map (some g'.mb)) := by rw [cell_of hst.store.cell]; rfl
      have hfile := hst.store.files f hf
      have hlook := lookup_any hst.store f.name (by have := hfile.nm.2; unfold maxLen; omega)
      rw [hfn, hlk] at hlook
      rw [← hfn] at hlook
      obtain ⟨bv0, bc0, hbv⟩ := row_slice hfile.row
      have f0 : wr.cell? ⟨f.fb, 0, none⟩ = some (.slice bv0 f.b.length bc0) := by rw [cell_of hfile.cell, hbv]; rfl
      have f1 : wr.cell? ⟨f.fb, 1, none⟩ = some (.int .i64 (f.s : Int)) := by rw [cell_of hfile.cell]; rfl
      have hbig := hfile.big
      have hsyn := hfile.syn
      have eb : f.b = (g.l[k]).b := congrArg Ent.b hfe
      have es : f.s = (g.l[k]).s := congrArg Ent.s hfe
      replace hfile := hid hfile
      replace hfe := hid hfe
      replace hf := hid hf
      unfold ptr at hlook
      unfold str at hnc hlook
      by_cases hloose : f.b.length ≤ f.s
      · have hpass : Hid (∀ W, Same wr W → Gone B sb w1 W g g' keep (k + 1) ks) := fun W hW => hg.out.pass hlt (by rw [← eb, ← es]; exact hloose) hW
        have hz : ((f.b.length : Int) - (f.s : Int) == 0) = true := by simp; omega
        clear eb es hfn hlk hst hbv
        go_wp2
        go_quiet (fail)
        go_wp2
        exact ⟨⟨k + 1, g', ks, a, c, by omega, by go_num, rfl, hpass.out _ ⟨rfl, rfl, rfl, rfl⟩, hi.out, hvb.out⟩, by simp [intOf]; omega⟩
      · have hz : ((f.b.length : Int) - (f.s : Int) == 0) = false := by simp; omega
        have z1 : wr.frozen? ⟨f.fb, 1, none⟩ = false := frozen_of hfile.out.cell 1
        -- what is cut, whatever is kept
        have hcut : Hid (∀ (m : Nat), m = f.s + keptOf ks (f.b.length - f.s) → ∀ W, Same wr W → Calls Try.prog 54 #[.pointer (some ⟨f.fb, 0, none⟩), .int .i64 (m : Int)] W fun e w2 => e = .returned (.tuple #[]) ∧ ∃ a2 c2, w2.cell? ⟨f.fb, 0, none⟩ = some (.slice a2 m c2) ∧ (∃ x, w2.cell? ⟨f.fb, 1, none⟩ = some (.int .i64 x)) ∧ w2.frozen? ⟨f.fb, 1, none⟩ = false ∧
            ∃ g2, Gone B sb w1 (w2.setCell ⟨f.fb, 1, none⟩ (.int .i64 (m : Int))) g g2 keep (k + 1) ks.tail ∧ ∀ b, ¬ foot sb g' b → b < wr.heap.size → (w2.setCell ⟨f.fb, 1, none⟩ (.int .i64 (m : Int))).heap[b]? = wr.heap[b]?) := by
          intro m hm W hW
          have hml : m ≤ f.b.length := by have := keptOf_le ks (f.b.length - f.s); omega
          refine (cut_any wr hfile.out m hml W hW).mono ?_
          rintro e w2 ⟨rfl, v', ht⟩
          obtain ⟨a2, c2, hv2⟩ := row_slice ht.file.row
          simp only at hv2
          rw [show (f.b.take m).length = m by simp; omega] at hv2
          have hcell := ht.file.cell
          simp only [hv2] at hcell
          have ht2 := ht.trans (turned_sync ht.file (s' := m) (by simp; omega) (.int .i64 (m : Int)) rfl)
          refine ⟨rfl, a2, c2, by rw [cell_of hcell]; rfl, ⟨_, by rw [cell_of hcell]; rfl⟩, frozen_of hcell 1, _, hg.out.next (Nat.le_trans ‹B ≤ w.heap.size› hb.out.size) hlt (by rw [← eb, ← es]; exact hloose) hf.out hfe.out ht2 (by rw [hm]) (by rw [hm]), fun b hb1 hb2 => ht2.kept.block b hb2 fun e => hb1 (.inr (.inr ⟨f, hf.out, e⟩))⟩
        have hkeep : Hid (∀ W a' c' ks', (∀ b, ¬ foot sb g' b → b < wr.heap.size → W.heap[b]? = wr.heap[b]?) → IsI wr (.slice a' ks'.length c') ks' → (ks' ≠ [] → ∀ b, (Value.slice a' ks'.length c').ownBlock = some b → b < w1.heap.size ∧ ¬ foot sb g b) → IsI W (.slice a' ks'.length c') ks') := by
          intro W a' c' ks' hW h1 h2
          refine h1.kept fun hne b hb1 hb2 => hW b (fun e => ?_) hb2
          obtain ⟨h3, h4⟩ := h2 hne b hb1
          rcases hg.out.step.fresh b e with e | e
          · exact h4 e
          · omega
        clear eb es hfn hlk hst hbv
        cases ks with
        | nil =>
          have e0 : Hid (f.s + keptOf [] (f.b.length - f.s) = f.s) := by simp [Hid, keptOf]
          have hcut := hid (hcut.out f.s e0.out.symm)
          go_wp2
          go_quiet (fail)
          go_wp2_with (go_at_call 54; refine (hcut.out _ (by exact ⟨rfl, rfl, rfl, rfl⟩)).mono ?_; rintro e w2 ⟨rfl, a2, c2, q0, ⟨x2, q1⟩, q2, g2, hg2, hk2⟩; replace hg2 := hid hg2; replace hk2 := hid hk2)
          exact ⟨⟨k + 1, g2, [], a, c, by omega, by go_num, rfl, hg2.out, hkeep.out _ a c [] hk2.out hi.out (fun h => absurd rfl h), fun h => absurd rfl h⟩, by simp [intOf]; omega⟩
        | cons x r =>
          obtain ⟨kb, koff, rfl⟩ : ∃ kb koff, a = some ⟨kb, koff, none⟩ := by
            obtain ⟨_, _, a', c', e, _, _, e5⟩ := hi.out
            cases e
            rcases e5 with e5 | ⟨b, off, e5, _⟩
            · cases e5
            · exact ⟨b, off, e5⟩
          have hx0 : wr.cell? ⟨kb, koff, none⟩ = some (.int .i64 x) := by
            obtain ⟨_, _, a', c', e, _, _, e5⟩ := hi.out
            cases e
            rcases e5 with e5 | ⟨b, off, e5, e6⟩
            · cases e5
            · cases e5
              simpa using e6 0 (by simp)
          obtain ⟨hx1, hx2⟩ : -9223372036854775808 ≤ x ∧ x ≤ 9223372036854775807 := hi.out.2.1 x List.mem_cons_self
          obtain ⟨hc1, hc2⟩ : r.length + 1 ≤ c ∧ c ≤ 9223372036854775807 := by
            obtain ⟨_, _, a', c', e, e3, e4, _⟩ := hi.out
            cases e
            unfold maxLen at e4
            simp at e3
            omega
          obtain ⟨m, hm⟩ : ∃ m, m = f.s + keptOf (x :: r) (f.b.length - f.s) := ⟨_, rfl⟩
          have hcut := hid (hcut.out m hm)
          have HM : Hid ((f.s : Int) + min (max x 0) ((f.b.length : Int) - (f.s : Int)) = (m : Int)) := by
            show _ = _
            simp only [keptOf] at hm
            omega
          clear hm
          have hy : 0 ≤ min (max x 0) ((f.b.length : Int) - (f.s : Int)) ∧ min (max x 0) ((f.b.length : Int) - (f.s : Int)) ≤ 1048576 := by omega
          go_wp2
          go_quiet (fail)
          go_wp2
          go_region
          generalize hA : (if c = 1 then some (⟨kb, koff, none⟩ : Addr) else some ⟨kb, koff + 1, none⟩) = A
          replace hA := hid hA
          generalize min (max x 0) ((f.b.length : Int) - (f.s : Int)) = y at hy HM ⊢
          obtain ⟨hy0, hy1⟩ := hy
          go_wp2_with (go_at_call 54; rw [HM.out]; refine (hcut.out _ (by exact ⟨rfl, rfl, rfl, rfl⟩)).mono ?_; rintro e w2 ⟨rfl, a2, c2, q0, ⟨x2, q1⟩, q2, g2, hg2, hk2⟩; replace hg2 := hid hg2; replace hk2 := hid hk2)
          have hAr : r ≠ [] → A = some ⟨kb, koff + 1, none⟩ := fun hr => by
            have h1 : 0 < r.length := List.length_pos_iff.2 hr
            rw [← hA.out, if_neg (by omega)]
          have hI2 := hi.out.tail A (c - 1) rfl hAr
          have hV2 : r ≠ [] → ∀ b, (Value.slice A r.length (c - 1)).ownBlock = some b → b < w1.heap.size ∧ ¬ foot sb g b := fun hr b hb => by
            rw [hAr hr] at hb
            exact hvb.out (by simp) b hb
          exact ⟨⟨k + 1, g2, r, A, c - 1, by omega, by go_num, rfl, hg2.out, hkeep.out _ A (c - 1) r hk2.out hI2 hV2, hV2⟩, by simp [intOf]; omega⟩
    · have hge : ¬ (k : Int) < (g.l.length : Int) := by omega
      have hst := hg.out.step
      have y2 : wr.frozen? ⟨sb, 2, none⟩ = false := frozen_of hst.store.cell 2
      have y0 : wr.cell? ⟨sb, 2, none⟩ = some (.int .i64 g'.left) := by rw [cell_of hst.store.cell]; rfl
      have hdn := hg.out.done (by omega)
      have ha := hg.out.acts
      have fin : Hid (∃ g2, g2.abs = g.abs.crash keep ∧ Step B sb w (wr.setCell ⟨sb, 2, none⟩ (.int .i64 (-1))) g g2) := by
        refine ⟨{ g' with left := -1 }, ?_, (Step.below HH.out hb.out).trans (hst.trans ⟨hst.store.left (-1) (by omega), kept_set wr sb 2 _ (.inl rfl), fun k hk => .inl hk⟩)⟩
        show (⟨g'.abs.l, g'.acts, -1⟩ : St) = ⟨crashL g.abs.l keep, g.acts, -1⟩
        rw [hdn, ha]
      clear hst hdn ha
      go_wp2
      go_end0
      exact ⟨rfl, fin.out⟩
end Go.Proofs.Ytinnegkkfaaceaa
