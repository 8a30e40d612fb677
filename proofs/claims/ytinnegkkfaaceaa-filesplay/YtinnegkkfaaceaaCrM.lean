/- The store, and beside it rows that the statement keeps: names, bytes, numbers. -/
import Derived.Test.YtinnegkkfaaceaaCrP
import Derived.Test.YtinnegkkfaaceaaPiecesP
namespace Go.Proofs.Ytinnegkkfaaceaa
open Go.RowKit Go.Maps Go.MapKept Go.Shelf

/-- append of one element (its cells) to an owned row. -/
theorem push_run {base t e : Nat} {i : TypeInfo} {z : Value} {size bytes : Nat} (ht : Try.prog.underlying t = some (.slice e)) (hi : Try.prog.info? e = some i) (hz : i.zero = some z) (hsize : i.size = size) (hby : i.bytes = bytes) (hzs : z.cells.size = size) (hsz : 0 < size)
    {w : World} {v : Value} {n : Nat} {xs : List Value} (hr : w.ownsRow base e size v n xs) (news : List Value) (hl : news.length = size) (h1 : ∀ u ∈ news, u.oneCell' = true) (hn : n ≤ 4000000) (hb8 : bytes ≤ 64) (hb : base ≤ w.heap.size) :
    ∃ a' c' w', (∀ ty, (Builtin.append_ #[t, t] ty #[v, .slice (some ⟨w.heap.size, 0, none⟩) 1 1]).run Try.prog (w.alloc (.cells news.toArray e)) = .ok (.slice a' (n + 1) c') w') ∧ w'.ownsRow base e size (.slice a' (n + 1) c') (n + 1) (xs ++ news) ∧ w.grownBy w' v.ownBlock ∧
      ∀ k, (Value.slice a' (n + 1) c').ownBlock = some k → v.ownBlock = some k ∨ w.heap.size ≤ k := by
  have e0 : (w.alloc (.cells news.toArray e)).heap[w.heap.size]? = some (.cells news.toArray e) := (MapKept.heap_alloc w _).1
  have hcells : ∀ j u, news[j]? = some u → (w.alloc (.cells news.toArray e)).cell? ((⟨w.heap.size, 0, none⟩ : Addr).add j) = some u := by
    intro j u hu
    rw [Addr.add_lit, cell_of e0, Nat.zero_add]
    simpa using hu
  obtain ⟨v', w', hrun, h3, h4, _, h5⟩ := run_append_own_at (P := Try.prog) (w.alloc (.cells news.toArray e)) base t 0 e i z size bytes ht hi hz hsize hby hzs hsz v n xs (hr.alloc _) ⟨w.heap.size, 0, none⟩ 1 1 news (by omega) hcells h1 (by unfold maxLen; omega) (by have := Nat.mul_le_mul (show n + 1 ≤ 4000001 by omega) hb8; omega) (by simp; omega)
  obtain ⟨a', c', rfl⟩ := row_slice h3
  refine ⟨a', c', w', fun ty => hrun, h3, ⟨h4.os, h4.tape, h4.output, by have := h4.size; simp at this; omega, fun k hk hne => (h4.block k (by simp; omega) hne).trans ((alloc_below w _).block k hk)⟩, fun k hk => ?_⟩
  rcases h5 with h5 | h5
  · exact .inl (h5 ▸ hk)
  · right
    rw [hk] at h5
    have : k = w.heap.size + 1 := by simpa using h5
    omega
theorem intInfo : (Try.prog.info? 3).map (fun i => (i.zero, i.size, i.bytes)) = some (some (.int .i64 0), 1, 8) := by kernel_rfl
theorem sliceInfo : (Try.prog.info? 30).map (fun i => (i.zero, i.size, i.bytes)) = some (some (.slice none 0 0), 1, 24) := by kernel_rfl
theorem row_block1 {w : World} {base : Nat} {e : TypeId} {s : Nat} {v : Value} {n : Nat} {xs : List Value} (h : w.ownsRow base e s v n xs) {k : Nat} (hk : v.ownBlock = some k) : ∃ c, w.heap[k]? = some (.cells c e) := by
  rcases h.2 with ⟨e1, _⟩ | ⟨g, cap, cur, e1, _, h2, _⟩
  · rw [e1] at hk; cases hk
  · rw [e1] at hk; cases hk; exact ⟨cur, h2⟩
/-- rows of unlike elements lie in unlike blocks. -/
theorem rows_apart {w : World} {base base' : Nat} {e e' : TypeId} {s s' : Nat} {v v' : Value} {n n' : Nat} {xs xs' : List Value} (h : w.ownsRow base e s v n xs) (h' : w.ownsRow base' e' s' v' n' xs') (hne : e ≠ e') {k : Nat} (hk : v.ownBlock = some k) : v'.ownBlock ≠ some k := by
  intro hk'
  obtain ⟨c, h1⟩ := row_block1 h hk
  obtain ⟨c', h2⟩ := row_block1 h' hk'
  rw [h1] at h2
  simp at h2
  exact hne h2.2
namespace filesCrash
theorem low' {B : Nat} {w w1 w2 : World} (L : Below B w w1) (hB : B ≤ w1.heap.size) (hb : Below w1.heap.size w1 w2) : Below B w w2 := L.trans (hb.mono hB)
/-- names of the files, bytes of each (vs: where), so many were safe. -/
structure Bes (B : Nat) (w wr : World) (sb : Nat) (g : Gs) (t : St) (nv : Value) (ns : List (List UInt8)) (wv : Value) (vs : List Value) (bss : List (List UInt8)) (sv : Value) (ss : List Nat) : Prop where
  is : Is B wr sb g t
  low : Below B w wr
  nrow : wr.ownsRow B 9 1 nv ns.length (ns.map str)
  wrow : wr.ownsRow B 30 1 wv bss.length vs
  srow : wr.ownsRow B 3 1 sv ss.length (ss.map fun (s : Nat) => Value.int .i64 (s : Int))
  els : ∀ (i : Nat) (bs : List UInt8), bss[i]? = some bs → ∃ v, vs[i]? = some v ∧ wr.ownsRow B 5 1 v bs.length (bs.map bv) ∧ ∀ b, v.ownBlock = some b → ¬ foot sb g b
  nfar : ∀ b, nv.ownBlock = some b → ¬ foot sb g b
  wfar : ∀ b, wv.ownBlock = some b → ¬ foot sb g b
  sfar : ∀ b, sv.ownBlock = some b → ¬ foot sb g b
section
variable {B sb : Nat} {w wr w4 : World} {g g4 : Gs} {t t4 : St} {nv wv sv : Value} {ns bss : List (List UInt8)} {vs : List Value} {ss : List Nat}
theorem Bes.start {t : St} (hB : Is B wr sb g t) (hl : Below B w wr) (hn : wr.ownsRow B 9 1 nv ns.length (ns.map str)) (hf : ∀ b, nv.ownBlock = some b → ¬ foot sb g b) : Bes B w wr sb g t nv ns (.slice none 0 0) [] [] (.slice none 0 0) [] :=
  ⟨hB, hl, hn, World.ownsRow_nil _ _ _ _, World.ownsRow_nil _ _ _ _, (fun i bs h => by simp at h), hf, (fun b h => by cases h), (fun b h => by cases h)⟩
theorem Bes.keep (h : Bes B w wr sb g t nv ns wv vs bss sv ss) (h4 : Is B w4 sb g4 t4) (hl : Below B w w4) (hk : ∀ b, b < wr.heap.size → ¬ foot sb g b → w4.heap[b]? = wr.heap[b]?) (hf : ∀ b, b < wr.heap.size → foot sb g4 b → foot sb g b) : Bes B w w4 sb g4 t4 nv ns wv vs bss sv ss := by
  refine ⟨h4, hl, ownsRow_block h.nrow fun k hk' => hk k (h.nrow.lt k hk').2 (h.nfar k hk'), ownsRow_block h.wrow fun k hk' => hk k (h.wrow.lt k hk').2 (h.wfar k hk'), ownsRow_block h.srow fun k hk' => hk k (h.srow.lt k hk').2 (h.sfar k hk'), fun i bs hi => ?_, fun b hb e => h.nfar b hb (hf b (h.nrow.lt b hb).2 e), fun b hb e => h.wfar b hb (hf b (h.wrow.lt b hb).2 e), fun b hb e => h.sfar b hb (hf b (h.srow.lt b hb).2 e)⟩
  obtain ⟨v, h1, h2, h3⟩ := h.els i bs hi
  exact ⟨v, h1, ownsRow_block h2 fun k hk' => hk k (h2.lt k hk').2 (h3 k hk'), fun b hb e => h3 b hb (hf b (h2.lt b hb).2 e)⟩
theorem Bes.step (h : Bes B w wr sb g t nv ns wv vs bss sv ss) (hs : Step B sb wr w4 g g4) (h4 : Is B w4 sb g4 t4) : Bes B w w4 sb g4 t4 nv ns wv vs bss sv ss :=
  h.keep h4 (h.low.trans (hs.low h.is)) (fun b hb hn => hs.kept.block b hb hn) fun b hb e => (hs.fresh b e).elim id fun e => by omega
theorem Bes.below (h : Bes B w wr sb g t nv ns wv vs bss sv ss) (hb : Below wr.heap.size wr w4) : Bes B w w4 sb g t nv ns wv vs bss sv ss :=
  h.keep (h.is.below hb) (low' h.low h.is.2.2 hb) (fun b hb' _ => hb.block b hb') fun _ _ e => e
theorem grown_low {B : Nat} {w wr w' : World} {row : Option Nat} (hl : Below B w wr) (hB : B ≤ wr.heap.size) (hg : wr.grownBy w' row) (hr : ∀ k, row = some k → B ≤ k) : Below B w w' :=
  hl.trans ⟨hg.os, hg.tape, hg.output, hg.size, fun k hk => hg.block k (by omega) fun e => by have := hr k e.symm; omega⟩
theorem Is.grown {B sb : Nat} {wr w' : World} {g : Gs} {t : St} {row : Option Nat} (h : Is B wr sb g t) (hg : wr.grownBy w' row) (hr : ∀ k, row = some k → ¬ foot sb g k) : Is B w' sb g t :=
  ⟨h.1.keep fun k hk => hg.block k (h.1.lt hk) fun e => hr k e.symm hk, h.2.1, Nat.le_trans h.2.2 hg.size⟩
theorem Bes.pushW (h : Bes B w wr sb g t nv ns wv vs bss sv ss) {a : Option Addr} {c : Nat} {bs : List UInt8} (hv : wr.ownsRow B 5 1 (.slice a bs.length c) bs.length (bs.map bv)) (hf : ∀ b, (Value.slice a bs.length c).ownBlock = some b → ¬ foot sb g b) (hn : bss.length ≤ 1000) :
    ∃ a' c' w', (∀ ty, (Builtin.append_ #[61, 61] ty #[wv, .slice (some ⟨wr.heap.size, 0, none⟩) 1 1]).run Try.prog (wr.alloc (.cells #[.slice a bs.length c] 30)) = .ok (.slice a' (bss.length + 1) c') w') ∧ Bes B w w' sb g t nv ns (.slice a' (bss.length + 1) c') (vs ++ [.slice a bs.length c]) (bss ++ [bs]) sv ss := by
  obtain ⟨i0, hi, hz0, hz1, hz2⟩ := info_parts sliceInfo
  obtain ⟨a', c', w', hrun, hown, hgr, hat⟩ := push_run (i := i0) (z := .slice none 0 0) (size := 1) (bytes := 24) Try.underlying61 hi hz0 hz1 hz2 rfl (by decide) h.wrow [.slice a bs.length c] rfl (by intro u hu; simp at hu; subst hu; rfl) (by omega) (by decide) h.is.2.2
  have hvl := h.wrow.1
  have keepW : ∀ {e s v n xs}, wr.ownsRow B e s v n xs → e ≠ 30 → w'.ownsRow B e s v n xs := fun {e s v n xs} hr hne => ownsRow_block hr fun k hk => hgr.block k (hr.lt k hk).2 fun e' => rows_apart hr h.wrow hne hk e'.symm
  refine ⟨a', c', w', hrun, Is.grown h.is hgr h.wfar, grown_low h.low h.is.2.2 hgr fun k hk => (h.wrow.lt k hk).1, keepW h.nrow (by decide), by simpa using hown, keepW h.srow (by decide), fun i q hq => ?_, h.nfar, fun b hb => ?_, h.sfar⟩
  · by_cases hlt : i < bss.length
    · rw [List.getElem?_append_left hlt] at hq
      obtain ⟨v, h1, h2, h3⟩ := h.els i q hq
      exact ⟨v, by rw [List.getElem?_append_left (by omega)]; exact h1, keepW h2 (by decide), h3⟩
    · rw [List.getElem?_append_right (by omega)] at hq
      have hi0 : i - bss.length = 0 := by
        have := (List.getElem?_eq_some_iff.1 hq).1
        simp at this; omega
      rw [hi0] at hq
      have e : bs = q := by simpa using hq
      subst e
      refine ⟨.slice a bs.length c, ?_, keepW hv (by decide), hf⟩
      rw [List.getElem?_append_right (by omega), show i - vs.length = 0 by omega]; rfl
  · rcases hat b hb with h1 | h1
    · exact h.wfar b h1
    · exact h.is.fresh h1
theorem Bes.pushS (h : Bes B w wr sb g t nv ns wv vs bss sv ss) (s : Nat) (hn : ss.length ≤ 1000) :
    ∃ a' c' w', (∀ ty, (Builtin.append_ #[31, 31] ty #[sv, .slice (some ⟨wr.heap.size, 0, none⟩) 1 1]).run Try.prog (wr.alloc (.cells #[.int .i64 (s : Int)] 3)) = .ok (.slice a' (ss.length + 1) c') w') ∧ Bes B w w' sb g t nv ns wv vs bss (.slice a' (ss.length + 1) c') (ss ++ [s]) := by
  obtain ⟨i0, hi, hz0, hz1, hz2⟩ := info_parts intInfo
  obtain ⟨a', c', w', hrun, hown, hgr, hat⟩ := push_run (i := i0) (z := .int .i64 0) (size := 1) (bytes := 8) Try.underlying31 hi hz0 hz1 hz2 rfl (by decide) h.srow [.int .i64 (s : Int)] rfl (by intro u hu; simp at hu; subst hu; rfl) (by omega) (by decide) h.is.2.2
  have keepW : ∀ {e s v n xs}, wr.ownsRow B e s v n xs → e ≠ 3 → w'.ownsRow B e s v n xs := fun {e s v n xs} hr hne => ownsRow_block hr fun k hk => hgr.block k (hr.lt k hk).2 fun e' => rows_apart hr h.srow hne hk e'.symm
  refine ⟨a', c', w', hrun, Is.grown h.is hgr h.sfar, grown_low h.low h.is.2.2 hgr fun k hk => (h.srow.lt k hk).1, keepW h.nrow (by decide), keepW h.wrow (by decide), by simpa using hown, fun i q hq => ?_, h.nfar, h.wfar, fun b hb => ?_⟩
  · obtain ⟨v, h1, h2, h3⟩ := h.els i q hq
    exact ⟨v, h1, keepW h2 (by decide), h3⟩
  · rcases hat b hb with h1 | h1
    · exact h.sfar b h1
    · exact h.is.fresh h1
/-- a row's cell. -/
theorem row_at {w : World} {base : Nat} {e : TypeId} {v : Value} {n : Nat} {xs : List Value} (h : w.ownsRow base e 1 v n xs) {j : Nat} {u : Value} (hj : xs[j]? = some u) : ∃ b c, v = .slice (some ⟨b, 0, none⟩) n c ∧ w.cell? ⟨b, j, none⟩ = some u ∧ w.frozen? ⟨b, j, none⟩ = false ∧ n ≤ c ∧ c ≤ maxLen := by
  have hlt : j < n := by
    have := (List.getElem?_eq_some_iff.1 hj).1
    have := h.1
    omega
  rcases h.2 with ⟨_, e0⟩ | ⟨g, cap, cur, e1, hb, hg, h1, h2, h3, h4⟩
  · omega
  · refine ⟨g, cap, e1, ?_, frozen_of hg j, h1, h2⟩
    have := h.cells (g := g) (by rw [e1]; rfl) j u hj
    rw [Addr.add_lit, Nat.zero_add] at this
    exact this
/-- a row with one cell turned. -/
theorem row_set {w : World} {base : Nat} {e : TypeId} {n c b : Nat} {xs : List Value} (h : w.ownsRow base e 1 (.slice (some ⟨b, 0, none⟩) n c) n xs) (j : Nat) (u : Value) : (w.setCell ⟨b, j, none⟩ u).ownsRow base e 1 (.slice (some ⟨b, 0, none⟩) n c) n (xs.set j u) := by
  refine ⟨by rw [List.length_set]; exact h.1, ?_⟩
  rcases h.2 with ⟨e0, _⟩ | ⟨g, cap, cur, e1, hb, hg, h1, h2, h3, h4⟩
  · cases e0
  · cases e1
    refine .inr ⟨b, c, cur.setIfInBounds j u, rfl, hb, heap_set_at hg u, h1, h2, by simpa using h3, ?_⟩
    rw [Array.toList_setIfInBounds, List.take_set, h4]
theorem Bes.setW {b c : Nat} (h : Bes B w wr sb g t nv ns (.slice (some ⟨b, 0, none⟩) bss.length c) vs bss sv ss) (j : Nat) {a' : Option Addr} {c' : Nat} {bs : List UInt8} (hv : wr.ownsRow B 5 1 (.slice a' bs.length c') bs.length (bs.map bv)) (hf : ∀ k, (Value.slice a' bs.length c').ownBlock = some k → ¬ foot sb g k) :
    Bes B w (wr.setCell ⟨b, j, none⟩ (.slice a' bs.length c')) sb g t nv ns (.slice (some ⟨b, 0, none⟩) (bss.set j bs).length c) (vs.set j (.slice a' bs.length c')) (bss.set j bs) sv ss := by
  have hfb : ¬ foot sb g b := h.wfar b rfl
  have hbB := (h.wrow.lt b rfl).1
  have keepW : ∀ {e s v n xs}, wr.ownsRow B e s v n xs → e ≠ 30 → (wr.setCell ⟨b, j, none⟩ (.slice a' bs.length c')).ownsRow B e s v n xs := fun {e s v n xs} hr hne => ownsRow_block hr fun k hk => heap_set _ _ _ _ _ fun e' => rows_apart hr h.wrow hne hk (by rw [e']; rfl)
  have hlen := h.wrow.1
  refine ⟨⟨h.is.1.keep fun k hk => heap_set _ _ _ _ _ fun e => hfb (e ▸ hk), h.is.2.1, by rw [size_set]; exact h.is.2.2⟩, h.low.trans ⟨rfl, rfl, rfl, by rw [size_set]; exact Nat.le_refl _, fun k hk => heap_set _ _ _ _ _ (by omega)⟩, keepW h.nrow (by decide), ?_, keepW h.srow (by decide), fun i q hq => ?_, h.nfar, fun k hk => h.wfar k hk, h.sfar⟩
  · have := row_set h.wrow j (.slice a' bs.length c')
    rw [List.length_set]
    exact this
  · by_cases hij : j = i
    · subst hij
      have hlt : j < bss.length := by have := (List.getElem?_eq_some_iff.1 hq).1; simpa using this
      rw [List.getElem?_set_self hlt] at hq
      have e := Option.some.inj hq
      subst e
      exact ⟨_, List.getElem?_set_self (by omega), keepW hv (by decide), hf⟩
    · rw [List.getElem?_set_ne hij] at hq
      obtain ⟨v, h1, h2, h3⟩ := h.els i q hq
      exact ⟨v, by rw [List.getElem?_set_ne hij]; exact h1, keepW h2 (by decide), h3⟩
end
end filesCrash
end Go.Proofs.Ytinnegkkfaaceaa
