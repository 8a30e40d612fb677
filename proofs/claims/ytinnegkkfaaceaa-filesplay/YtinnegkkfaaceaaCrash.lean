/- Contract of Crash. -/
import Derived.Test.YtinnegkkfaaceaaCrashP
import Derived.Deep.LoopGhost
namespace Go.Proofs.Ytinnegkkfaaceaa
open Go.RowKit Go.Maps Go.MapKept Go.Shelf

/-- how far a crash has come: k files are done, ks is what is left of the numbers. -/
structure Gone (B sb : Nat) (w wr : World) (g g' : Gs) (keep : List Int) (k : Nat) (ks : List Int) : Prop where
  step : Step B sb w wr g g'
  acts : g'.acts = g.acts
  left : g'.left = g.left
  path : ∃ d, d.length = k ∧ g'.abs.l = d ++ g.abs.l.drop k ∧ d ++ crashL (g.abs.l.drop k) ks = crashL g.abs.l keep
theorem Gone.start {B sb : Nat} {w : World} {g : Gs} {keep : List Int} (h : StoreAt B w sb g) : Gone B sb w w g g keep 0 keep :=
  ⟨Step.below h (Below.refl _ _), rfl, rfl, [], rfl, by simp, by simp⟩
theorem Gone.here {B sb : Nat} {w wr : World} {g g' : Gs} {keep ks : List Int} {k : Nat} (h : Gone B sb w wr g g' keep k ks) (hk : k < g.l.length) : ∃ f ∈ g'.l, f.e = (g.l[k]).e ∧ f.name = (g.l[k]).name ∧ look (g.l[k]).name g'.l = some f := by
  obtain ⟨d, hd, hl, _⟩ := h.path
  have hk' : k < g.abs.l.length := by simpa [Gs.abs] using hk
  rw [List.drop_eq_getElem_cons hk'] at hl
  have hm : (g.l[k]).e ∈ g'.abs.l := by
    rw [hl]
    have : g.abs.l[k] = (g.l[k]).e := by simp [Gs.abs]
    rw [this]
    exact List.mem_append.2 (.inr List.mem_cons_self)
  obtain ⟨f, hf, he⟩ := List.mem_map.1 hm
  have hn : f.name = (g.l[k]).name := congrArg Ent.name he
  exact ⟨f, hf, he, hn, by rw [← hn]; exact look_of_mem h.step.store.rising hf⟩
theorem Gone.pass {B sb : Nat} {w wr : World} {g g' : Gs} {keep ks : List Int} {k : Nat} (h : Gone B sb w wr g g' keep k ks) (hk : k < g.l.length) (hs : (g.l[k]).b.length ≤ (g.l[k]).s) {W : World} (hW : Same wr W) : Gone B sb w W g g' keep (k + 1) ks := by
  obtain ⟨d, hd, hl, hc⟩ := h.path
  have hk' : k < g.abs.l.length := by simpa [Gs.abs] using hk
  have e : g.abs.l[k] = (g.l[k]).e := by simp [Gs.abs]
  rw [List.drop_eq_getElem_cons hk', e] at hl hc
  obtain ⟨e1, e2, e3, e4⟩ := hW
  refine ⟨h.step.trans ⟨h.step.store.keep fun _ _ => by rw [e1], ⟨e2, e3, e4, by rw [e1]; exact Nat.le_refl _, fun _ _ _ => by rw [e1]⟩, fun _ hk => .inl hk⟩, h.acts, h.left, d ++ [(g.l[k]).e], by simp [hd], by rw [hl]; simp, ?_⟩
  rw [← hc]
  show _ = d ++ (if (g.l[k]).b.length ≤ (g.l[k]).s then _ else _)
  rw [if_pos hs]
  simp
theorem Gone.next {B sb : Nat} {w wr : World} {g g' : Gs} {keep ks : List Int} {k : Nat} (h : Gone B sb w wr g g' keep k ks) (hB : B ≤ w.heap.size) (hk : k < g.l.length) (hs : ¬ (g.l[k]).b.length ≤ (g.l[k]).s) {f f' : Fg} (hf : f ∈ g'.l) (hfe : f.e = (g.l[k]).e) {W : World} (ht : Turned wr W f f')
    (hb : f'.b = f.b.take (f.s + keptOf ks (f.b.length - f.s))) (hs' : f'.s = f.s + keptOf ks (f.b.length - f.s)) : Gone B sb w W g { g' with l := put f' g'.l } keep (k + 1) ks.tail := by
  obtain ⟨d, hd, hl, hc⟩ := h.path
  have hk' : k < g.abs.l.length := by simpa [Gs.abs] using hk
  have e : g.abs.l[k] = (g.l[k]).e := by simp [Gs.abs]
  rw [List.drop_eq_getElem_cons hk', e] at hl hc
  have hn : f'.e.name = (g.l[k]).e.name := by rw [← hfe]; exact ht.name
  have e1 : f.b = (g.l[k]).b := congrArg Ent.b hfe
  have e2 : f.s = (g.l[k]).s := congrArg Ent.s hfe
  have e3 : f.name = (g.l[k]).name := congrArg Ent.name hfe
  refine ⟨h.step.trans (Step.turn h.step.store (Nat.le_trans hB h.step.kept.size) hf ht), h.acts, h.left, d ++ [f'.e], by simp [hd], ?_, ?_⟩
  · show (put f' g'.l).map Fg.e = _
    rw [map_put, show g'.l.map Fg.e = g'.abs.l from rfl, hl, putE_mid (by rw [← hl]; exact risingE_map h.step.store.rising) hn]
    simp
  · rw [← hc]
    show _ = d ++ (if (g.l[k]).b.length ≤ (g.l[k]).s then _ else _)
    rw [if_neg hs, List.append_assoc]
    have : f'.e = ⟨(g.l[k]).e.name, (g.l[k]).e.b.take ((g.l[k]).e.s + keptOf ks ((g.l[k]).e.b.length - (g.l[k]).e.s)), (g.l[k]).e.s + keptOf ks ((g.l[k]).e.b.length - (g.l[k]).e.s)⟩ := by
      show (⟨f'.name, f'.b, f'.s⟩ : Ent) = ⟨(g.l[k]).name, (g.l[k]).b.take ((g.l[k]).s + keptOf ks ((g.l[k]).b.length - (g.l[k]).s)), (g.l[k]).s + keptOf ks ((g.l[k]).b.length - (g.l[k]).s)⟩
      rw [hb, hs', ht.name, e1, e2, e3]
    rw [this]
    rfl
theorem Gone.done {B sb : Nat} {w wr : World} {g g' : Gs} {keep ks : List Int} {k : Nat} (h : Gone B sb w wr g g' keep k ks) (hk : g.l.length ≤ k) : g'.abs.l = crashL g.abs.l keep := by
  obtain ⟨d, _, hl, hc⟩ := h.path
  rw [List.drop_of_length_le (by simpa [Gs.abs] using hk)] at hl hc
  rw [hl, ← hc]; simp [crashL]
end Go.Proofs.Ytinnegkkfaaceaa
