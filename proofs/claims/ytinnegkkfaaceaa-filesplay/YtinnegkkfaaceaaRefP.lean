/- The document's own store in memory: a struct, a row of files (name, bytes, how many are synced). -/
import Derived.Test.YtinnegkkfaaceaaCrM
namespace Go.Proofs.Ytinnegkkfaaceaa
open Go.RowKit Go.Maps Go.MapKept Go.Shelf

structure Rs where
  lv : Value
  ps : List (Ent × Value)
  acts : Nat
  left : Int
def Rs.abs (R : Rs) : St := ⟨R.ps.map Prod.fst, R.acts, R.left⟩
def cells3 (p : Ent × Value) : List Value := [str p.1.name, p.2, .int .i64 (p.1.s : Int)]
def flat3 (ps : List (Ent × Value)) : List Value := ps.flatMap cells3
theorem flat3_length (ps : List (Ent × Value)) : (flat3 ps).length = ps.length * 3 := by
  induction ps with
  | nil => rfl
  | cons p r ih =>
    show (cells3 p ++ flat3 r).length = _
    rw [List.length_append, ih]
    simp [cells3]; omega
theorem flat3_append (a b : List (Ent × Value)) : flat3 (a ++ b) = flat3 a ++ flat3 b := by simp [flat3]
theorem flat3_at {ps : List (Ent × Value)} {i : Nat} {p : Ent × Value} (h : ps[i]? = some p) (c : Nat) (hc : c < 3) : (flat3 ps)[i * 3 + c]? = (cells3 p)[c]? := by
  induction ps generalizing i with
  | nil => simp at h
  | cons q r ih =>
    show (cells3 q ++ flat3 r)[i * 3 + c]? = _
    cases i with
    | zero =>
      have e : q = p := by simpa using h
      subst e
      rw [Nat.zero_mul, Nat.zero_add, List.getElem?_append_left (by simp [cells3]; omega)]
    | succ i =>
      rw [List.getElem?_append_right (by simp [cells3]; omega)]
      have e : (i + 1) * 3 + c - (cells3 q).length = i * 3 + c := by simp [cells3]; omega
      rw [e]
      exact ih (by simpa using h)
structure RefAt (B : Nat) (w : World) (rb : Nat) (R : Rs) : Prop where
  cell : w.heap[rb]? = some (.cells #[R.lv, .int .i64 R.left, .int .i64 (R.acts : Int)] 67)
  row : w.ownsRow B 35 3 R.lv R.ps.length (flat3 R.ps)
  els : ∀ p ∈ R.ps, w.ownsRow B 5 1 p.2 p.1.b.length (p.1.b.map bv)
  base : B ≤ rb
  size : B ≤ w.heap.size
def rfoot (rb : Nat) (R : Rs) (k : Nat) : Prop := k = rb ∨ R.lv.ownBlock = some k ∨ ∃ p ∈ R.ps, p.2.ownBlock = some k
section
variable {B rb : Nat} {w w' : World} {R R' R'' : Rs}
theorem RefAt.lt (h : RefAt B w rb R) {k : Nat} (hk : rfoot rb R k) : k < w.heap.size := by
  rcases hk with rfl | hk | ⟨p, hp, hk⟩
  · exact lt_of_block h.cell
  · exact (h.row.lt k hk).2
  · exact ((h.els p hp).lt k hk).2
theorem RefAt.low (h : RefAt B w rb R) {k : Nat} (hk : rfoot rb R k) : B ≤ k := by
  rcases hk with rfl | hk | ⟨p, hp, hk⟩
  · exact h.base
  · exact (h.row.lt k hk).1
  · exact ((h.els p hp).lt k hk).1
theorem RefAt.keep (h : RefAt B w rb R) (hs : w.heap.size ≤ w'.heap.size) (hb : ∀ k, rfoot rb R k → w'.heap[k]? = w.heap[k]?) : RefAt B w' rb R :=
  ⟨(hb _ (.inl rfl)).trans h.cell, ownsRow_block h.row fun k hk => hb k (.inr (.inl hk)), fun p hp => ownsRow_block (h.els p hp) fun k hk => hb k (.inr (.inr ⟨p, hp, hk⟩)), h.base, Nat.le_trans h.size hs⟩
theorem RefAt.below (h : RefAt B w rb R) (hb : Below w.heap.size w w') : RefAt B w' rb R := h.keep hb.size fun k hk => hb.block k (h.lt hk)
theorem RefAt.slice (h : RefAt B w rb R) : ∃ a c, R.lv = .slice a R.ps.length c := row_slice h.row
theorem RefAt.at (h : RefAt B w rb R) {i : Nat} {p : Ent × Value} (hp : R.ps[i]? = some p) : ∃ lb lc, R.lv = .slice (some ⟨lb, 0, none⟩) R.ps.length lc ∧ w.cell? ⟨lb, i * 3, none⟩ = some (str p.1.name) ∧ w.cell? ⟨lb, i * 3 + 1, none⟩ = some p.2 ∧ w.cell? ⟨lb, i * 3 + 2, none⟩ = some (.int .i64 (p.1.s : Int)) ∧ (∀ c, w.frozen? ⟨lb, c, none⟩ = false) ∧ lb ≠ rb := by
  have hlt := (List.getElem?_eq_some_iff.1 hp).1
  rcases h.row.2 with ⟨_, e0⟩ | ⟨g, cap, cur, e1, hb, hg, h1, h2, h3, h4⟩
  · omega
  · have hc : ∀ c, c < 3 → ∀ u, (cells3 p)[c]? = some u → w.cell? ⟨g, i * 3 + c, none⟩ = some u := by
      intro c hc u hu
      have := h.row.cells (g := g) (by rw [e1]; rfl) (i * 3 + c) u (by rw [flat3_at hp c hc]; exact hu)
      rw [Addr.add_lit, Nat.zero_add] at this
      exact this
    refine ⟨g, cap, e1, hc 0 (by decide) _ rfl, hc 1 (by decide) _ rfl, hc 2 (by decide) _ rfl, fun c => frozen_of hg c, fun e => ?_⟩
    have := h.cell
    rw [← e, hg] at this
    simp at this
/-- what a call does with the document's store: bytes that lie stay. -/
structure RStep (B rb : Nat) (w w' : World) (R R' : Rs) : Prop where
  ref : RefAt B w' rb R'
  kept : Kept (rfoot rb R) w w'
  fresh : ∀ k, rfoot rb R' k → rfoot rb R k ∨ w.heap.size ≤ k
  old : ∀ v n xs, w.ownsRow B 5 1 v n xs → w'.ownsRow B 5 1 v n xs
theorem RStep.trans {w'' : World} (h : RStep B rb w w' R R') (k : RStep B rb w' w'' R' R'') : RStep B rb w w'' R R'' :=
  ⟨k.ref, h.kept.trans k.kept h.fresh, fun i hi => (k.fresh i hi).elim (h.fresh i) fun e => .inr (Nat.le_trans h.kept.size e), fun v n xs hv => k.old v n xs (h.old v n xs hv)⟩
theorem RStep.below (h : RefAt B w rb R) (hb : Below w.heap.size w w') : RStep B rb w w' R R :=
  ⟨h.below hb, kept_of_below hb, fun _ hk => .inl hk, fun _ _ _ hv => ownsRow_block hv fun k hk => hb.block k (hv.lt k hk).2⟩
/-- the struct's numbers are turned. -/
theorem RefAt.numbers (h : RefAt B w rb R) (l' : Int) (a' : Nat) (hc : w'.heap[rb]? = some (.cells #[R.lv, .int .i64 l', .int .i64 (a' : Int)] 67)) (hk : Kept (fun k => k = rb) w w') : RStep B rb w w' R { R with left := l', acts := a' } := by
  have hb : ∀ {e s v n xs}, w.ownsRow B e s v n xs → e ≠ 67 → w'.ownsRow B e s v n xs := fun {e s v n xs} hv he => ownsRow_block hv fun k hk' => hk.block k (hv.lt k hk').2 fun e' => by
    obtain ⟨c, h1⟩ := row_block1 hv hk'
    rw [e', h.cell] at h1
    simp at h1
    exact he h1.2.symm
  exact ⟨⟨hc, hb h.row (by decide), fun p hp => hb (h.els p hp) (by decide), h.base, Nat.le_trans h.size hk.size⟩, hk.mono fun _ _ e => .inl e, fun _ hk => .inl hk, fun v n xs hv => hb hv (by decide)⟩
/-- the struct's row is turned to another one. -/
theorem RefAt.other (h : RefAt B w rb R) {lv : Value} {ps : List (Ent × Value)} (hrow : w.ownsRow B 35 3 lv ps.length (flat3 ps)) (hels : ∀ p ∈ ps, w.ownsRow B 5 1 p.2 p.1.b.length (p.1.b.map bv)) {W : World} (hb : Kept (fun k => W.heap.size ≤ k ∨ k = rb) W w) (hlv : ∀ k, lv.ownBlock = some k → W.heap.size ≤ k) (hps : ∀ p ∈ ps, ∀ k, p.2.ownBlock = some k → rfoot rb R k ∨ W.heap.size ≤ k) (hold : ∀ v n xs, W.ownsRow B 5 1 v n xs → w.ownsRow B 5 1 v n xs) :
    RStep B rb W (w.setCell ⟨rb, 0, none⟩ lv) R { R with lv := lv, ps := ps } := by
  have hb' : ∀ {e s v n xs}, w.ownsRow B e s v n xs → e ≠ 67 → (w.setCell ⟨rb, 0, none⟩ lv).ownsRow B e s v n xs := fun {e s v n xs} hv he => ownsRow_block hv fun k hk' => heap_set _ _ _ _ _ fun e' => by
    obtain ⟨c, h1⟩ := row_block1 hv hk'
    rw [e', h.cell] at h1
    simp at h1
    exact he h1.2.symm
  refine ⟨⟨?_, hb' hrow (by decide), fun p hp => hb' (hels p hp) (by decide), h.base, by rw [size_set]; exact h.size⟩, ?_, fun k hk => ?_, fun v n xs hv => hb' (hold v n xs hv) (by decide)⟩
  · rw [heap_set_at h.cell]; simp
  · refine ⟨hb.os, hb.tape, hb.output, by rw [size_set]; exact hb.size, fun k hk hn => ?_⟩
    rw [heap_set _ _ _ _ _ fun e => hn (.inl e)]
    exact hb.block k hk fun e => e.elim (by omega) fun e => hn (.inl e)
  · rcases hk with rfl | hk | ⟨p, hp, hk⟩
    · exact .inl (.inl rfl)
    · exact .inr (hlv k hk)
    · exact hps p hp k hk
end
theorem look_idx {n : List UInt8} {f : Ent} : ∀ {ps : List (Ent × Value)}, lookE n (ps.map Prod.fst) = some f → ∃ (i : Nat) (p : Ent × Value), ps[i]? = some p ∧ p.1 = f ∧ f.name = n ∧ ∀ (j : Nat), j < i → ∀ q : Ent × Value, ps[j]? = some q → q.1.name ≠ n
  | [], h => by simp [lookE] at h
  | x :: r, h => by
    unfold lookE at h
    by_cases hx : x.1.name = n
    · have : x.1 = f := by simpa [hx] using h
      exact ⟨0, x, rfl, this, by rw [← this]; exact hx, fun j hj => by omega⟩
    · have h' : lookE n (r.map Prod.fst) = some f := by unfold lookE; simpa [hx] using h
      obtain ⟨i, p, h1, h2, h3, h4⟩ := look_idx h'
      refine ⟨i + 1, p, by simpa using h1, h2, h3, fun j hj q hq => ?_⟩
      cases j with
      | zero => have e : x = q := by simpa using hq
                rw [← e]; exact hx
      | succ j => exact h4 j (by omega) q (by simpa using hq)
theorem look_not {n : List UInt8} {ps : List (Ent × Value)} (h : lookE n (ps.map Prod.fst) = none) : ∀ (j : Nat) (q : Ent × Value), ps[j]? = some q → q.1.name ≠ n := by
  intro j q hq e
  have := List.find?_eq_none.1 h q.1 (List.mem_map.2 ⟨q, List.mem_of_getElem? hq, rfl⟩)
  simp [e] at this
end Go.Proofs.Ytinnegkkfaaceaa
