/- Joined: SCrashP SCrash SW15 SW16 STold. -/
import Derived.Test.YtihgikekkgoddaaGreatDoorZSd
import Derived.Deep.LoopGhost
import Derived.Laws.Small
/- Plain mathematics of a crash; a slice of numbers in memory. -/
namespace Go.Proofs.YtihgikekkgoddaaGreatDoor.Sto
open Go.RowKit Go.Maps Go.MapKept Go.Shelf

def keptOf (ks : List Int) (loose : Nat) : Nat := match ks with | [] => 0 | x :: _ => min x.toNat loose
def crashL : List Ent → List Int → List Ent
  | [], _ => []
  | f :: r, ks => if f.b.length ≤ f.s then f :: crashL r ks else ⟨f.name, f.b.take (f.s + keptOf ks (f.b.length - f.s)), f.s + keptOf ks (f.b.length - f.s)⟩ :: crashL r ks.tail
def St.crash (t : St) (ks : List Int) : St := { t with l := crashL t.l ks, left := -1 }
def RisingE (l : List Ent) : Prop := l.Pairwise fun a b => a.name < b.name
theorem risingE_map {l : List Fg} (h : Rising l) : RisingE (l.map Fg.e) := List.pairwise_map.2 h
theorem keptOf_le (ks : List Int) (n : Nat) : keptOf ks n ≤ n := by
  unfold keptOf; split <;> omega
theorem delE_of_not {n : List UInt8} {l : List Ent} (h : ∀ f ∈ l, f.name ≠ n) : delE n l = l := by
  unfold delE
  rw [List.filter_eq_self]
  intro f hf
  simp [h f hf]
theorem insE_mid (f : Ent) : ∀ (d r : List Ent), (∀ x ∈ d, ¬ f.name < x.name) → (∀ x ∈ r, f.name < x.name) → insE f (d ++ r) = d ++ f :: r
  | [], [], _, _ => rfl
  | [], y :: r, _, hr => by
    show (if f.name < y.name then _ else _) = _
    rw [if_pos (hr y List.mem_cons_self)]; rfl
  | x :: d, r, hd, hr => by
    show (if f.name < x.name then _ else x :: insE f (d ++ r)) = _
    rw [if_neg (hd x List.mem_cons_self), insE_mid f d r (fun y hy => hd y (List.mem_cons_of_mem _ hy)) hr]; rfl
/-- a file put at the place of the one of its name. -/
theorem putE_mid {f x : Ent} {d r : List Ent} (h : RisingE (d ++ x :: r)) (hn : f.name = x.name) : putE f (d ++ x :: r) = d ++ f :: r := by
  obtain ⟨h1, h2, h3⟩ := List.pairwise_append.1 h
  have h4 := List.pairwise_cons.1 h2
  have e : delE f.name (d ++ x :: r) = d ++ r := by
    have a1 : delE f.name d = d := delE_of_not fun y hy e => by have := h3 y hy x List.mem_cons_self; rw [e, hn] at this; exact lt_irrefl _ this
    have a2 : delE f.name r = r := delE_of_not fun y hy e => by have := h4.1 y hy; rw [e, hn] at this; exact lt_irrefl _ this
    unfold delE at a1 a2 ⊢
    rw [List.filter_append, List.filter_cons_of_neg (by simp [hn]), a1, a2]
  unfold putE
  rw [e]
  refine insE_mid f d r (fun y hy hlt => ?_) fun y hy => ?_
  · have := h3 y hy x List.mem_cons_self
    rw [hn] at hlt
    exact lt_irrefl _ (lt_trans hlt this)
  · rw [hn]; exact h4.1 y hy
/-- a slice's value over numbers in memory. -/
def IsI (w : World) (v : Value) (ks : List Int) : Prop :=
  ks.length ≤ maxLen ∧ (∀ x ∈ ks, -9223372036854775808 ≤ x ∧ x ≤ 9223372036854775807) ∧ ∃ a c, v = .slice a ks.length c ∧ ks.length ≤ c ∧ c ≤ maxLen ∧ (ks = [] ∨ ∃ b off, a = some ⟨b, off, none⟩ ∧ ∀ i, i < ks.length → w.cell? ⟨b, off + i, none⟩ = some (.int .i64 (ks.getD i 0)))
theorem IsI.kept {w w' : World} {v : Value} {ks : List Int} (h : IsI w v ks) (hk : ks ≠ [] → ∀ b, v.ownBlock = some b → b < w.heap.size → w'.heap[b]? = w.heap[b]?) : IsI w' v ks := by
  obtain ⟨h1, h2, a, c, rfl, h3, h4, h5⟩ := h
  refine ⟨h1, h2, a, c, rfl, h3, h4, ?_⟩
  rcases h5 with h5 | ⟨b, off, rfl, h5⟩
  · exact .inl h5
  · exact .inr ⟨b, off, rfl, fun i hi => (World.cell?_of_block (a := ⟨b, off + i, none⟩) (hk (fun e => by rw [e] at hi; cases hi) b rfl (World.block_lt_of_cell? w ⟨b, off + i, none⟩ (h5 i hi)))).trans (h5 i hi)⟩
theorem IsI.lt {w : World} {v : Value} {ks : List Int} (h : IsI w v ks) (hn : ks ≠ []) {b : Nat} (hb : v.ownBlock = some b) : b < w.heap.size := by
  obtain ⟨h1, h2, a, c, rfl, h3, h4, h5⟩ := h
  rcases h5 with h5 | ⟨b', off, rfl, h5⟩
  · exact absurd h5 hn
  · have : b' = b := by simpa [Value.ownBlock] using hb
    subst this
    exact World.block_lt_of_cell? w ⟨b', off + 0, none⟩ (h5 0 (List.length_pos_iff.2 hn))
/-- the numbers without the first one. -/
theorem IsI.tail {w : World} {b off : Nat} {x : Int} {r : List Int} {c : Nat} (h : IsI w (.slice (some ⟨b, off, none⟩) (x :: r).length c) (x :: r)) (a' : Option Addr) (c' : Nat) (hc : c' = c - 1) (ha : r ≠ [] → a' = some ⟨b, off + 1, none⟩) : IsI w (.slice a' r.length c') r := by
  obtain ⟨h1, h2, a, c0, e, h3, h4, h5⟩ := h
  cases e
  refine ⟨by simp at h1; omega, fun y hy => h2 y (List.mem_cons_of_mem _ hy), a', c', rfl, by simp at h3; omega, by omega, ?_⟩
  by_cases hr : r = []
  · exact .inl hr
  · refine .inr ⟨b, off + 1, ha hr, fun i hi => ?_⟩
    rcases h5 with h5 | ⟨b', off', e, h5⟩
    · cases h5
    · cases e
      have := h5 (i + 1) (by simp; omega)
      rw [show off + 1 + i = off + (i + 1) by omega, this]
      simp
theorem Turned.trans {w w1 w2 : World} {f f1 f2 : Fg} (a : Turned w w1 f f1) (b : Turned w1 w2 f1 f2) : Turned w w2 f f2 := by
  refine ⟨b.file, b.name.trans a.name, b.fb.trans a.fb, a.kept.trans b.kept fun k hk => ?_, fun k hk => ?_⟩
  · rcases hk with hk | hk
    · exact .inl (.inl (hk.trans a.fb))
    · rcases a.row k hk with h | h
      · exact .inl (.inr h)
      · exact .inr h
  · rcases b.row k hk with h | h
    · exact a.row k h
    · exact .inr (Nat.le_trans a.kept.size h)
/-- a world that differs by draws alone. -/
def Same (w W : World) : Prop := W.heap = w.heap ∧ W.os = w.os ∧ W.tape = w.tape ∧ W.output = w.output
theorem cut_any (w : World) {f : Fg} (h : FileAt w f) (n : Nat) (hn : n ≤ f.b.length) (W : World) (hW : Same w W) :
    Calls Tryz.prog 46 #[ptr f.fb, .int .i64 (n : Int)] W fun e w' => e = .returned (.tuple #[]) ∧ ∃ v', Turned w w' f { f with b := f.b.take n, s := min f.s n, v := v' } := by
  obtain ⟨e1, e2, e3, e4⟩ := hW
  have hq : FileAt W f := h.keep fun _ _ => by rw [e1]
  have ht : ∀ {w' : World} {f' : Fg}, Turned W w' f f' → Turned w w' f f' := fun ht => ⟨ht.file, ht.name, ht.fb, ⟨ht.kept.os.trans e2, ht.kept.tape.trans e3, ht.kept.output.trans e4, by rw [← e1]; exact ht.kept.size, fun k h1 h2 => by rw [← e1]; exact ht.kept.block k (by rw [e1]; exact h1) h2⟩, by rw [← e1]; exact ht.row⟩
  by_cases hlt : n < f.b.length
  · refine (cut_less W hq n hlt).mono ?_
    rintro e w' ⟨rfl, v', h1⟩
    exact ⟨rfl, v', ht h1⟩
  · obtain rfl : n = f.b.length := by omega
    refine (cut_whole W hq).mono ?_
    rintro e w' ⟨rfl, h1⟩
    refine ⟨rfl, f.v, ?_⟩
    rw [List.take_length, Nat.min_eq_left h.syn]
    exact ht h1
end Go.Proofs.YtihgikekkgoddaaGreatDoor.Sto
/- Contract of Crash. -/
namespace Go.Proofs.YtihgikekkgoddaaGreatDoor.Sto
open Go.RowKit Go.Maps Go.MapKept Go.Shelf

/-- how far a crash has come: k files are done, ks is what is left of the numbers. -/
structure Gone (B sb : Nat) (w wr : World) (g g' : Gs) (keep : List Int) (k : Nat) (ks : List Int) : Prop where
  step : Step B sb w wr g g'
  acts : g'.acts = g.acts
  left : g'.left = g.left
  path : ∃ d, d.length = k ∧ g'.abs.l = d ++ g.abs.l.drop k ∧ d ++ crashL (g.abs.l.drop k) ks = crashL g.abs.l keep
theorem Gone.start {B sb : Nat} {w : World} {g : Gs} {keep : List Int} (h : StoreAt B w sb g) : Gone B sb w w g g keep 0 keep :=
  ⟨Step.below h (Below.refl _ _), rfl, rfl, [], rfl, by simp, by simp⟩
theorem Gone.here {B sb : Nat} {w wr : World} {g g' : Gs} {keep ks : List Int} {k : Nat} (h : Gone B sb w wr g g' keep k ks) (hk : k < g.l.length) : ∃ f ∈ g'.l, f.e = (g.l[k]).e ∧ f.name = (g.l[k]).name ∧ look (g.l[k]).name g'.l = some f := by
  obtain ⟨d, hd, hl, _⟩ := h.path
  have hk' : k < g.abs.l.length := by simpa [Gs.abs] using hk
  rw [List.drop_eq_getElem_cons hk'] at hl
  have hm : (g.l[k]).e ∈ g'.abs.l := by
    rw [hl]
    have : g.abs.l[k] = (g.l[k]).e := by simp [Gs.abs]
    rw [this]
    exact List.mem_append.2 (.inr List.mem_cons_self)
  obtain ⟨f, hf, he⟩ := List.mem_map.1 hm
  have hn : f.name = (g.l[k]).name := congrArg Ent.name he
  exact ⟨f, hf, he, hn, by rw [← hn]; exact look_of_mem h.step.store.rising hf⟩
theorem Gone.pass {B sb : Nat} {w wr : World} {g g' : Gs} {keep ks : List Int} {k : Nat} (h : Gone B sb w wr g g' keep k ks) (hk : k < g.l.length) (hs : (g.l[k]).b.length ≤ (g.l[k]).s) {W : World} (hW : Same wr W) : Gone B sb w W g g' keep (k + 1) ks := by
  obtain ⟨d, hd, hl, hc⟩ := h.path
  have hk' : k < g.abs.l.length := by simpa [Gs.abs] using hk
  have e : g.abs.l[k] = (g.l[k]).e := by simp [Gs.abs]
  rw [List.drop_eq_getElem_cons hk', e] at hl hc
  obtain ⟨e1, e2, e3, e4⟩ := hW
  refine ⟨h.step.trans ⟨h.step.store.keep fun _ _ => by rw [e1], ⟨e2, e3, e4, by rw [e1]; exact Nat.le_refl _, fun _ _ _ => by rw [e1]⟩, fun _ hk => .inl hk⟩, h.acts, h.left, d ++ [(g.l[k]).e], by simp [hd], by rw [hl]; simp, ?_⟩
  rw [← hc]
  show _ = d ++ (if (g.l[k]).b.length ≤ (g.l[k]).s then _ else _)
  rw [if_pos hs]
  simp
theorem Gone.next {B sb : Nat} {w wr : World} {g g' : Gs} {keep ks : List Int} {k : Nat} (h : Gone B sb w wr g g' keep k ks) (hB : B ≤ w.heap.size) (hk : k < g.l.length) (hs : ¬ (g.l[k]).b.length ≤ (g.l[k]).s) {f f' : Fg} (hf : f ∈ g'.l) (hfe : f.e = (g.l[k]).e) {W : World} (ht : Turned wr W f f')
    (hb : f'.b = f.b.take (f.s + keptOf ks (f.b.length - f.s))) (hs' : f'.s = f.s + keptOf ks (f.b.length - f.s)) : Gone B sb w W g { g' with l := put f' g'.l } keep (k + 1) ks.tail := by
  obtain ⟨d, hd, hl, hc⟩ := h.path
  have hk' : k < g.abs.l.length := by simpa [Gs.abs] using hk
  have e : g.abs.l[k] = (g.l[k]).e := by simp [Gs.abs]
  rw [List.drop_eq_getElem_cons hk', e] at hl hc
  have hn : f'.e.name = (g.l[k]).e.name := by rw [← hfe]; exact ht.name
  have e1 : f.b = (g.l[k]).b := congrArg Ent.b hfe
  have e2 : f.s = (g.l[k]).s := congrArg Ent.s hfe
  have e3 : f.name = (g.l[k]).name := congrArg Ent.name hfe
  refine ⟨h.step.trans (Step.turn h.step.store (Nat.le_trans hB h.step.kept.size) hf ht), h.acts, h.left, d ++ [f'.e], by simp [hd], ?_, ?_⟩
  · show (put f' g'.l).map Fg.e = _
    rw [map_put, show g'.l.map Fg.e = g'.abs.l from rfl, hl, putE_mid (by rw [← hl]; exact risingE_map h.step.store.rising) hn]
    simp
  · rw [← hc]
    show _ = d ++ (if (g.l[k]).b.length ≤ (g.l[k]).s then _ else _)
    rw [if_neg hs, List.append_assoc]
    have : f'.e = ⟨(g.l[k]).e.name, (g.l[k]).e.b.take ((g.l[k]).e.s + keptOf ks ((g.l[k]).e.b.length - (g.l[k]).e.s)), (g.l[k]).e.s + keptOf ks ((g.l[k]).e.b.length - (g.l[k]).e.s)⟩ := by
      show (⟨f'.name, f'.b, f'.s⟩ : Ent) = ⟨(g.l[k]).name, (g.l[k]).b.take ((g.l[k]).s + keptOf ks ((g.l[k]).b.length - (g.l[k]).s)), (g.l[k]).s + keptOf ks ((g.l[k]).b.length - (g.l[k]).s)⟩
      rw [hb, hs', ht.name, e1, e2, e3]
    rw [this]
    rfl
theorem Gone.done {B sb : Nat} {w wr : World} {g g' : Gs} {keep ks : List Int} {k : Nat} (h : Gone B sb w wr g g' keep k ks) (hk : g.l.length ≤ k) : g'.abs.l = crashL g.abs.l keep := by
  obtain ⟨d, _, hl, hc⟩ := h.path
  rw [List.drop_of_length_le (by simpa [Gs.abs] using hk)] at hl hc
  rw [hl, ← hc]; simp [crashL]
end Go.Proofs.YtihgikekkgoddaaGreatDoor.Sto
/- Contract of Crash: the walk. -/
namespace Go.Proofs.YtihgikekkgoddaaGreatDoor.Sto
open Go.RowKit Go.Maps Go.MapKept Go.Shelf

theorem names_length (l : List Fg) : (names l).length = l.length := by simp [names]
/-- Names of a store with files: a row of strings in new memory. -/
theorem names_some {B sb : Nat} {g : Gs} (w : World) (h : StoreAt B w sb g) (h0 : 0 < g.l.length) :
    Calls Tryz.prog 45 #[ptr sb] w fun e w' => ∃ nb c, e = .returned (.slice (some ⟨nb, 0, none⟩) g.l.length c) ∧ w.heap.size ≤ nb ∧ nb < w'.heap.size ∧ (∀ k (hk : k < g.l.length), w'.cell? ⟨nb, k, none⟩ = some (str (g.l[k]).name)) ∧ Below w.heap.size w w' := by
  refine (names_any w h).mono ?_
  rintro e w' ⟨a, c, rfl, hrow, hb⟩
  rw [names_length] at hrow
  rcases hrow.2 with ⟨e1, e2⟩ | ⟨nb, cap, cur, e1, h1, h2, _⟩
  · omega
  · cases e1
    refine ⟨nb, c, by rw [names_length], h1, lt_of_block h2, fun k hk => ?_, hb⟩
    have := hrow.cells (g := nb) rfl k (str (g.l[k]).name) (by simp [names, hk])
    rwa [Addr.add_lit, Nat.zero_add] at this
set_option maxHeartbeats 4000000 in
theorem crash_some {B sb : Nat} {g : Gs} (w : World) (h : StoreAt B w sb g) (hB : B ≤ w.heap.size) (v : Value) (keep : List Int) (hI : IsI w v keep) (hv : keep ≠ [] → ∀ b, v.ownBlock = some b → ¬ foot sb g b) (h0 : 0 < g.l.length) :
    Calls Tryz.prog 18 #[ptr sb, v] w fun e w' => e = .returned (.tuple #[]) ∧ ∃ g', g'.abs = g.abs.crash keep ∧ Step B sb w w' g g' := by
  have hm := hid (made_yes w h)
  have hnm := hid (names_some w h h0)
  have hfew := h.few
  obtain ⟨av, cv, hvv⟩ : ∃ a c, v = .slice a keep.length c := by obtain ⟨_, _, a, c, e, _⟩ := hI; exact ⟨a, c, e⟩
  have HI := hid hI
  have HV := hid hv
  have HH := hid h
  rw [hvv] at HI HV ⊢
  unfold ptr at hm hnm ⊢
  clear h hI hv hvv
  go_enter Tryz.func18, Tryz.ntmps18
  go_wp2_with (first | (go_at_call 44; refine hm.out.mono ?_; rintro e w' ⟨rfl, hw⟩; have hw' := hw.symm; subst hw'; clear hw) | (go_at_call 45; refine hnm.out.mono ?_; rintro e w1 ⟨nb, nc, rfl, hn1, hn2, hn3, hb⟩; replace hn3 := hid hn3; replace hb := hid hb))
  go_loopw [1, 15] (fun kp i wr => ∃ (k : Nat) (g' : Gs) (ks : List Int) (a : Option Addr) (c : Nat), k ≤ g.l.length ∧ i = .int .i64 k ∧ kp = .slice a ks.length c ∧ Gone B sb w1 wr g g' keep k ks ∧ IsI wr (.slice a ks.length c) ks ∧ (ks ≠ [] → ∀ b, (Value.slice a ks.length c).ownBlock = some b → b < w1.heap.size ∧ ¬ foot sb g b)) (fun _ i _ => g.l.length - (intOf i).toNat)
  case atStart => exact ⟨0, g, keep, av, cv, by omega, rfl, rfl, Gone.start (HH.out.below hb.out), HI.out.kept (fun _ b _ hl => hb.out.block b hl), fun hne b e => ⟨Nat.lt_of_lt_of_le (HI.out.lt hne e) hb.out.size, HV.out hne b e⟩⟩
  case round =>
    rename_i wr
    obtain ⟨k, g', ks, a, c, hk, rfl, rfl, hg, hi, hvb⟩ := hrel
    replace hg := hid hg
    replace hi := hid hi
    replace hvb := hid hvb
    by_cases hlt : k < g.l.length
    · have hlt' : (k : Int) < (g.l.length : Int) := by omega
      obtain ⟨f, hf, hfe, hfn, hlk⟩ := hg.out.here hlt
      have hst := hg.out.step
      have hnc : wr.cell? ⟨nb, k, none⟩ = some (str f.name) := by
        rw [hfn]
        have hnb : nb < w1.heap.size := hn2
        exact (World.cell?_of_block (a := ⟨nb, k, none⟩) (hst.kept.block nb hnb fun e => by have := HH.out.lt e; omega)).trans (hn3.out k hlt)
      have c0 : wr.cell? ⟨sb, 0, none⟩ = some (.map (some g'.mb)) := by rw [cell_of hst.store.cell]; rfl
      have hfile := hst.store.files f hf
      have hlook := lookup_any hst.store f.name (by have := hfile.nm.2; unfold maxLen; omega)
      rw [hfn, hlk] at hlook
      rw [← hfn] at hlook
      obtain ⟨bv0, bc0, hbv⟩ := row_slice hfile.row
      have f0 : wr.cell? ⟨f.fb, 0, none⟩ = some (.slice bv0 f.b.length bc0) := by rw [cell_of hfile.cell, hbv]; rfl
      have f1 : wr.cell? ⟨f.fb, 1, none⟩ = some (.int .i64 (f.s : Int)) := by rw [cell_of hfile.cell]; rfl
      have hbig := hfile.big
      have hsyn := hfile.syn
      have eb : f.b = (g.l[k]).b := congrArg Ent.b hfe
      have es : f.s = (g.l[k]).s := congrArg Ent.s hfe
      replace hfile := hid hfile
      replace hfe := hid hfe
      replace hf := hid hf
      unfold ptr at hlook
      unfold str at hnc hlook
      by_cases hloose : f.b.length ≤ f.s
      · have hpass : Hid (∀ W, Same wr W → Gone B sb w1 W g g' keep (k + 1) ks) := fun W hW => hg.out.pass hlt (by rw [← eb, ← es]; exact hloose) hW
        have hz : ((f.b.length : Int) - (f.s : Int) == 0) = true := by simp; omega
        clear eb es hfn hlk hst hbv
        go_wp2
        go_quiet (fail)
        go_wp2
        exact ⟨⟨k + 1, g', ks, a, c, by omega, by go_num, rfl, hpass.out _ ⟨rfl, rfl, rfl, rfl⟩, hi.out, hvb.out⟩, by simp [intOf]; omega⟩
      · have hz : ((f.b.length : Int) - (f.s : Int) == 0) = false := by simp; omega
        have z1 : wr.frozen? ⟨f.fb, 1, none⟩ = false := frozen_of hfile.out.cell 1
        -- what is cut, whatever is kept
        have hcut : Hid (∀ (m : Nat), m = f.s + keptOf ks (f.b.length - f.s) → ∀ W, Same wr W → Calls Tryz.prog 46 #[.pointer (some ⟨f.fb, 0, none⟩), .int .i64 (m : Int)] W fun e w2 => e = .returned (.tuple #[]) ∧ ∃ a2 c2, w2.cell? ⟨f.fb, 0, none⟩ = some (.slice a2 m c2) ∧ (∃ x, w2.cell? ⟨f.fb, 1, none⟩ = some (.int .i64 x)) ∧ w2.frozen? ⟨f.fb, 1, none⟩ = false ∧
            ∃ g2, Gone B sb w1 (w2.setCell ⟨f.fb, 1, none⟩ (.int .i64 (m : Int))) g g2 keep (k + 1) ks.tail ∧ ∀ b, ¬ foot sb g' b → b < wr.heap.size → (w2.setCell ⟨f.fb, 1, none⟩ (.int .i64 (m : Int))).heap[b]? = wr.heap[b]?) := by
          intro m hm W hW
          have hml : m ≤ f.b.length := by have := keptOf_le ks (f.b.length - f.s); omega
          refine (cut_any wr hfile.out m hml W hW).mono ?_
          rintro e w2 ⟨rfl, v', ht⟩
          obtain ⟨a2, c2, hv2⟩ := row_slice ht.file.row
          simp only at hv2
          rw [show (f.b.take m).length = m by simp; omega] at hv2
          have hcell := ht.file.cell
          simp only [hv2] at hcell
          have ht2 := ht.trans (turned_sync ht.file (s' := m) (by simp; omega) (.int .i64 (m : Int)) rfl)
          refine ⟨rfl, a2, c2, by rw [cell_of hcell]; rfl, ⟨_, by rw [cell_of hcell]; rfl⟩, frozen_of hcell 1, _, hg.out.next (Nat.le_trans ‹B ≤ w.heap.size› hb.out.size) hlt (by rw [← eb, ← es]; exact hloose) hf.out hfe.out ht2 (by rw [hm]) (by rw [hm]), fun b hb1 hb2 => ht2.kept.block b hb2 fun e => hb1 (.inr (.inr ⟨f, hf.out, e⟩))⟩
        have hkeep : Hid (∀ W a' c' ks', (∀ b, ¬ foot sb g' b → b < wr.heap.size → W.heap[b]? = wr.heap[b]?) → IsI wr (.slice a' ks'.length c') ks' → (ks' ≠ [] → ∀ b, (Value.slice a' ks'.length c').ownBlock = some b → b < w1.heap.size ∧ ¬ foot sb g b) → IsI W (.slice a' ks'.length c') ks') := by
          intro W a' c' ks' hW h1 h2
          refine h1.kept fun hne b hb1 hb2 => hW b (fun e => ?_) hb2
          obtain ⟨h3, h4⟩ := h2 hne b hb1
          rcases hg.out.step.fresh b e with e | e
          · exact h4 e
          · omega
        clear eb es hfn hlk hst hbv
        cases ks with
        | nil =>
          have e0 : Hid (f.s + keptOf [] (f.b.length - f.s) = f.s) := by simp [Hid, keptOf]
          have hcut := hid (hcut.out f.s e0.out.symm)
          go_wp2
          go_quiet (fail)
          go_wp2_with (go_at_call 46; refine (hcut.out _ (by exact ⟨rfl, rfl, rfl, rfl⟩)).mono ?_; rintro e w2 ⟨rfl, a2, c2, q0, ⟨x2, q1⟩, q2, g2, hg2, hk2⟩; replace hg2 := hid hg2; replace hk2 := hid hk2)
          exact ⟨⟨k + 1, g2, [], a, c, by omega, by go_num, rfl, hg2.out, hkeep.out _ a c [] hk2.out hi.out (fun h => absurd rfl h), fun h => absurd rfl h⟩, by simp [intOf]; omega⟩
        | cons x r =>
          obtain ⟨kb, koff, rfl⟩ : ∃ kb koff, a = some ⟨kb, koff, none⟩ := by
            obtain ⟨_, _, a', c', e, _, _, e5⟩ := hi.out
            cases e
            rcases e5 with e5 | ⟨b, off, e5, _⟩
            · cases e5
            · exact ⟨b, off, e5⟩
          have hx0 : wr.cell? ⟨kb, koff, none⟩ = some (.int .i64 x) := by
            obtain ⟨_, _, a', c', e, _, _, e5⟩ := hi.out
            cases e
            rcases e5 with e5 | ⟨b, off, e5, e6⟩
            · cases e5
            · cases e5
              simpa using e6 0 (by simp)
          obtain ⟨hx1, hx2⟩ : -9223372036854775808 ≤ x ∧ x ≤ 9223372036854775807 := hi.out.2.1 x List.mem_cons_self
          obtain ⟨hc1, hc2⟩ : r.length + 1 ≤ c ∧ c ≤ 9223372036854775807 := by
            obtain ⟨_, _, a', c', e, e3, e4, _⟩ := hi.out
            cases e
            unfold maxLen at e4
            simp at e3
            omega
          obtain ⟨m, hm⟩ : ∃ m, m = f.s + keptOf (x :: r) (f.b.length - f.s) := ⟨_, rfl⟩
          have hcut := hid (hcut.out m hm)
          have HM : Hid ((f.s : Int) + min (max x 0) ((f.b.length : Int) - (f.s : Int)) = (m : Int)) := by
            show _ = _
            simp only [keptOf] at hm
            omega
          clear hm
          have hy : 0 ≤ min (max x 0) ((f.b.length : Int) - (f.s : Int)) ∧ min (max x 0) ((f.b.length : Int) - (f.s : Int)) ≤ 1048576 := by omega
          go_wp2
          go_quiet (fail)
          go_wp2
          go_region
          generalize hA : (if c = 1 then some (⟨kb, koff, none⟩ : Addr) else some ⟨kb, koff + 1, none⟩) = A
          replace hA := hid hA
          generalize min (max x 0) ((f.b.length : Int) - (f.s : Int)) = y at hy HM ⊢
          obtain ⟨hy0, hy1⟩ := hy
          go_wp2_with (go_at_call 46; rw [HM.out]; refine (hcut.out _ (by exact ⟨rfl, rfl, rfl, rfl⟩)).mono ?_; rintro e w2 ⟨rfl, a2, c2, q0, ⟨x2, q1⟩, q2, g2, hg2, hk2⟩; replace hg2 := hid hg2; replace hk2 := hid hk2)
          have hAr : r ≠ [] → A = some ⟨kb, koff + 1, none⟩ := fun hr => by
            have h1 : 0 < r.length := List.length_pos_iff.2 hr
            rw [← hA.out, if_neg (by omega)]
          have hI2 := hi.out.tail A (c - 1) rfl hAr
          have hV2 : r ≠ [] → ∀ b, (Value.slice A r.length (c - 1)).ownBlock = some b → b < w1.heap.size ∧ ¬ foot sb g b := fun hr b hb => by
            rw [hAr hr] at hb
            exact hvb.out (by simp) b hb
          exact ⟨⟨k + 1, g2, r, A, c - 1, by omega, by go_num, rfl, hg2.out, hkeep.out _ A (c - 1) r hk2.out hI2 hV2, hV2⟩, by simp [intOf]; omega⟩
    · have hge : ¬ (k : Int) < (g.l.length : Int) := by omega
      have hst := hg.out.step
      have y2 : wr.frozen? ⟨sb, 2, none⟩ = false := frozen_of hst.store.cell 2
      have y0 : wr.cell? ⟨sb, 2, none⟩ = some (.int .i64 g'.left) := by rw [cell_of hst.store.cell]; rfl
      have hdn := hg.out.done (by omega)
      have ha := hg.out.acts
      have fin : Hid (∃ g2, g2.abs = g.abs.crash keep ∧ Step B sb w (wr.setCell ⟨sb, 2, none⟩ (.int .i64 (-1))) g g2) := by
        refine ⟨{ g' with left := -1 }, ?_, (Step.below HH.out hb.out).trans (hst.trans ⟨hst.store.left (-1) (by omega), kept_set wr sb 2 _ (.inl rfl), fun k hk => .inl hk⟩)⟩
        show (⟨g'.abs.l, g'.acts, -1⟩ : St) = ⟨crashL g.abs.l keep, g.acts, -1⟩
        rw [hdn, ha]
      clear hst hdn ha
      go_wp2
      go_end0
      exact ⟨rfl, fin.out⟩
end Go.Proofs.YtihgikekkgoddaaGreatDoor.Sto
/- Contract of Crash, of whatever store; some of the chapter's rows (awake). -/
namespace Go.Proofs.YtihgikekkgoddaaGreatDoor.Sto
open Go.RowKit Go.Maps Go.MapKept Go.Shelf

set_option maxHeartbeats 1000000 in
theorem crash_none {B sb : Nat} {g : Gs} (w : World) (h : StoreAt B w sb g) (v : Value) (hv : ∃ a n c, v = .slice a n c) (keep : List Int) (h0 : g.l = []) :
    Calls Tryz.prog 18 #[ptr sb, v] w fun e w' => e = .returned (.tuple #[]) ∧ ∃ g', g'.abs = g.abs.crash keep ∧ Step B sb w w' g g' := by
  have hm := hid (made_yes w h)
  have hnm := names_any w h
  rw [h0] at hnm
  replace hnm := hid hnm
  obtain ⟨av, nv, cv, rfl⟩ := hv
  have fin : Hid (∀ w1, Below w.heap.size w w1 → w1.frozen? ⟨sb, 2, none⟩ = false ∧ w1.cell? ⟨sb, 2, none⟩ = some (.int .i64 g.left) ∧ ∃ g', g'.abs = g.abs.crash keep ∧ Step B sb w (w1.setCell ⟨sb, 2, none⟩ (.int .i64 (-1))) g g') := by
    intro w1 hb
    have h1 := h.below hb
    refine ⟨frozen_of h1.cell 2, by rw [cell_of h1.cell]; rfl, { g with left := -1 }, ?_, (Step.below h hb).trans ⟨h1.left (-1) (by omega), kept_set w1 sb 2 _ (.inl rfl), fun k hk => .inl hk⟩⟩
    show (⟨g.l.map Fg.e, g.acts, -1⟩ : St) = ⟨crashL (g.l.map Fg.e) keep, g.acts, -1⟩
    rw [h0]; rfl
  unfold ptr at hm hnm ⊢
  clear h h0
  go_enter Tryz.func18, Tryz.ntmps18
  go_wp2_with (first | (go_at_call 44; refine hm.out.mono ?_; rintro e w' ⟨rfl, hw⟩; have hw' := hw.symm; subst hw'; clear hw) | (go_at_call 45; refine hnm.out.mono ?_; rintro e w1 ⟨na, nc, rfl, _, hb⟩; obtain ⟨q1, q2, q3⟩ := fin.out w1 hb; replace q3 := hid q3; clear hb))
  go_loopw [15] (fun i wr => i = .int .i64 0 ∧ wr = w1) (fun _ _ => 0)
  case atStart => exact ⟨rfl, rfl⟩
  case round =>
    obtain ⟨rfl, rfl⟩ := hrel
    go_wp2
    go_end0
    exact ⟨rfl, q3.out⟩
theorem crash_any {B sb : Nat} {g : Gs} (w : World) (h : StoreAt B w sb g) (hB : B ≤ w.heap.size) (v : Value) (keep : List Int) (hI : IsI w v keep) (hv : keep ≠ [] → ∀ b, v.ownBlock = some b → ¬ foot sb g b) :
    Calls Tryz.prog 18 #[ptr sb, v] w fun e w' => e = .returned (.tuple #[]) ∧ ∃ g', g'.abs = g.abs.crash keep ∧ Step B sb w w' g g' := by
  by_cases h0 : g.l = []
  · obtain ⟨_, _, a, c, e, _⟩ := hI
    exact crash_none w h v ⟨a, _, c, e⟩ keep h0
  · exact crash_some w h hB v keep hI hv (List.length_pos_iff.2 h0)
end Go.Proofs.YtihgikekkgoddaaGreatDoor.Sto
/- The store's contracts over what the store is told to be. -/
namespace Go.Proofs.YtihgikekkgoddaaGreatDoor.Sto
open Go.RowKit Go.Maps Go.MapKept Go.Shelf

/-- a store that is told to be t. -/
def Is (B : Nat) (w : World) (sb : Nat) (g : Gs) (t : St) : Prop := StoreAt B w sb g ∧ g.abs = t ∧ B ≤ w.heap.size
theorem Is.below {B sb : Nat} {w w' : World} {g : Gs} {t : St} (h : Is B w sb g t) (hb : Below w.heap.size w w') : Is B w' sb g t := ⟨h.1.below hb, h.2.1, Nat.le_trans h.2.2 hb.size⟩
theorem Is.step {B sb : Nat} {w w' : World} {g g' : Gs} {t t' : St} (h : Is B w sb g t) (hs : Step B sb w w' g g') (ht : g'.abs = t') : Is B w' sb g' t' := ⟨hs.store, ht, Nat.le_trans h.2.2 hs.kept.size⟩
/-- all below B stays. -/
theorem Step.low {B sb : Nat} {w w' : World} {g g' : Gs} {t : St} (h : Is B w sb g t) (hs : Step B sb w w' g g') : Below B w w' := hs.kept.below h.2.2 h.1.base
theorem append_t {B sb : Nat} {g : Gs} {t t' : St} {r : Int} (w : World) (h : Is B w sb g t) (n : List UInt8) (hn : n.length ≤ 4294967296) (v2 : Value) (bs : List UInt8) (h2 : IsB w v2 bs) (ha : t.acts < 4611686018427387904) (ht : t.append n bs = (r, t')) :
    Calls Tryz.prog 36 #[ptr sb, str n, v2] w fun e w' => e = .returned (.int .i64 r) ∧ ∃ g', Step B sb w w' g g' ∧ Is B w' sb g' t' := by
  have hx := append_any w h.1 h.2.2 n hn v2 bs h2 (by have := h.2.1; rw [← this] at ha; exact ha)
  rw [h.2.1, ht] at hx
  refine hx.mono ?_
  rintro e w' ⟨rfl, g', h1, h2⟩
  exact ⟨rfl, g', h2, h.step h2 h1⟩
theorem sync_t {B sb : Nat} {g : Gs} {t t' : St} {r : Int} (w : World) (h : Is B w sb g t) (n : List UInt8) (hn : n.length ≤ maxLen) (ha : t.acts < 4611686018427387904) (ht : t.sync n = (r, t')) :
    Calls Tryz.prog 39 #[ptr sb, str n] w fun e w' => e = .returned (.int .i64 r) ∧ ∃ g', Step B sb w w' g g' ∧ Is B w' sb g' t' := by
  have hx := sync_any w h.1 h.2.2 n hn (by have := h.2.1; rw [← this] at ha; exact ha)
  rw [h.2.1, ht] at hx
  refine hx.mono ?_
  rintro e w' ⟨rfl, g', h1, h2⟩
  exact ⟨rfl, g', h2, h.step h2 h1⟩
theorem truncate_t {B sb : Nat} {g : Gs} {t t' : St} {r : Int} (w : World) (h : Is B w sb g t) (n : List UInt8) (hn : n.length ≤ maxLen) (k : Int) (ha : t.acts < 4611686018427387904) (ht : t.truncate n k = (r, t')) :
    Calls Tryz.prog 56 #[ptr sb, str n, .int .i64 k] w fun e w' => e = .returned (.int .i64 r) ∧ ∃ g', Step B sb w w' g g' ∧ Is B w' sb g' t' := by
  have hx := truncate_any w h.1 h.2.2 n hn k (by have := h.2.1; rw [← this] at ha; exact ha)
  rw [h.2.1, ht] at hx
  refine hx.mono ?_
  rintro e w' ⟨rfl, g', h1, h2⟩
  exact ⟨rfl, g', h2, h.step h2 h1⟩
theorem rename_t {B sb : Nat} {g : Gs} {t t' : St} {r : Int} (w : World) (h : Is B w sb g t) (o n : List UInt8) (ho : o.length ≤ maxLen) (hn : n.length ≤ 4294967296) (ha : t.acts < 4611686018427387904) (ht : t.rename o n = (r, t')) :
    Calls Tryz.prog 72 #[ptr sb, str o, str n] w fun e w' => e = .returned (.int .i64 r) ∧ ∃ g', Step B sb w w' g g' ∧ Is B w' sb g' t' := by
  have hx := rename_any w h.1 h.2.2 o n ho hn (by have := h.2.1; rw [← this] at ha; exact ha)
  rw [h.2.1, ht] at hx
  refine hx.mono ?_
  rintro e w' ⟨rfl, g', h1, h2⟩
  exact ⟨rfl, g', h2, h.step h2 h1⟩
theorem remove_t {B sb : Nat} {g : Gs} {t t' : St} {r : Int} (w : World) (h : Is B w sb g t) (n : List UInt8) (hn : n.length ≤ maxLen) (ha : t.acts < 4611686018427387904) (ht : t.remove n = (r, t')) :
    Calls Tryz.prog 52 #[ptr sb, str n] w fun e w' => e = .returned (.int .i64 r) ∧ ∃ g', Step B sb w w' g g' ∧ Is B w' sb g' t' := by
  have hx := remove_any w h.1 n hn (by have := h.2.1; rw [← this] at ha; exact ha)
  rw [h.2.1, ht] at hx
  refine hx.mono ?_
  rintro e w' ⟨rfl, g', h1, h2⟩
  exact ⟨rfl, g', h2, h.step h2 h1⟩
theorem power_t {B sb : Nat} {g : Gs} {t : St} (w : World) (h : Is B w sb g t) (x : Int) (hx : -9223372036854775808 ≤ x ∧ x ≤ 9223372036854775807) :
    Calls Tryz.prog 16 #[ptr sb, .int .i64 x] w fun e w' => e = .returned (.tuple #[]) ∧ ∃ g', Step B sb w w' g g' ∧ Is B w' sb g' { t with left := x } := by
  refine (power_any w h.1 x hx).mono ?_
  rintro e w' ⟨rfl, h1, h2⟩
  have hs : Step B sb w w' g { g with left := x } := ⟨h1, h2, fun k hk => .inl hk⟩
  exact ⟨rfl, _, hs, h.step hs (by rw [← h.2.1]; rfl)⟩
theorem crash_t {B sb : Nat} {g : Gs} {t : St} (w : World) (h : Is B w sb g t) (v : Value) (keep : List Int) (hI : IsI w v keep) (hv : keep ≠ [] → ∀ b, v.ownBlock = some b → ¬ foot sb g b) :
    Calls Tryz.prog 18 #[ptr sb, v] w fun e w' => e = .returned (.tuple #[]) ∧ ∃ g', Step B sb w w' g g' ∧ Is B w' sb g' (t.crash keep) := by
  refine (crash_any w h.1 h.2.2 v keep hI hv).mono ?_
  rintro e w' ⟨rfl, g', h1, h2⟩
  exact ⟨rfl, g', h2, h.step h2 (by rw [h1, h.2.1])⟩
theorem dead_t {B sb : Nat} {g : Gs} {t : St} (w : World) (h : Is B w sb g t) :
    Calls Tryz.prog 17 #[ptr sb] w fun e w' => e = .returned (.bool (t.left == 0)) ∧ w' = w := by
  rw [← h.2.1]; exact dead_any w h.1
theorem size_t {B sb : Nat} {g : Gs} {t : St} {x r : Int} (w : World) (h : Is B w sb g t) (n : List UInt8) (hn : n.length ≤ maxLen) (ht : t.get n (fun f => f.b.length) = (x, r)) :
    Calls Tryz.prog 21 #[ptr sb, str n] w fun e w' => e = .returned (.tuple #[.int .i64 x, .int .i64 r]) ∧ Below w.heap.size w w' := by
  have hx := size_any w h.1 n hn
  rw [h.2.1, ht] at hx
  exact hx
theorem read_t {B sb : Nat} {g : Gs} {t : St} {bs : List UInt8} {r : Int} (w : World) (h : Is B w sb g t) (n : List UInt8) (hn : n.length ≤ maxLen) (ht : t.read n = (bs, r)) :
    Calls Tryz.prog 53 #[ptr sb, str n] w fun e w' => ∃ a c, e = .returned (.tuple #[.slice a bs.length c, .int .i64 r]) ∧ w'.ownsRow w.heap.size 5 1 (.slice a bs.length c) bs.length (bs.map bv) ∧ Below w.heap.size w w' := by
  have hx := read_any w h.1 n hn
  rw [h.2.1, ht] at hx
  exact hx
theorem new_t (w : World) : Calls Tryz.prog 15 #[] w fun e w' => e = .returned (ptr (w.heap.size + 1)) ∧ Is w.heap.size w' (w.heap.size + 1) (g0 w.heap.size) ⟨[], 0, -1⟩ ∧ Below w.heap.size w w' ∧ w'.heap.size = w.heap.size + 2 := by
  refine (new_any w).mono ?_
  rintro e w' ⟨rfl, h1, h2, h3⟩
  exact ⟨rfl, ⟨h1, rfl, h2.size⟩, h2, h3⟩
theorem isB_lit (w : World) (bs : List UInt8) (c : Nat) (hb : bs.length ≤ maxLen) : IsB (w.alloc (.cells (bs.map bv).toArray 5)) (.slice (some ⟨w.heap.size, 0, none⟩) bs.length c) bs := by
  refine ⟨hb, _, c, rfl, .inr ⟨w.heap.size, 0, rfl, fun i hi => ?_⟩⟩
  have e : (w.alloc (.cells (bs.map bv).toArray 5)).heap[w.heap.size]? = some (.cells (bs.map bv).toArray 5) := (MapKept.heap_alloc w _).1
  rw [cell_of e, Nat.zero_add]
  simp [List.getD, hi]
theorem isI_lit (w : World) (ks : List Int) (c : Nat) (hc : ks.length ≤ c) (hm : c ≤ maxLen) (hk : ∀ x ∈ ks, -9223372036854775808 ≤ x ∧ x ≤ 9223372036854775807) : IsI (w.alloc (.cells (ks.map (Value.int .i64)).toArray 3)) (.slice (some ⟨w.heap.size, 0, none⟩) ks.length c) ks := by
  refine ⟨by omega, hk, _, c, rfl, hc, hm, .inr ⟨w.heap.size, 0, rfl, fun i hi => ?_⟩⟩
  have e : (w.alloc (.cells (ks.map (Value.int .i64)).toArray 3)).heap[w.heap.size]? = some (.cells (ks.map (Value.int .i64)).toArray 3) := (MapKept.heap_alloc w _).1
  rw [cell_of e, Nat.zero_add]
  simp [List.getD, hi]
end Go.Proofs.YtihgikekkgoddaaGreatDoor.Sto
