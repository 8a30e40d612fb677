/- Contract of Open. -/
import Derived.Test.YtihgikekkgoddaaGreatDoorZL10
import Derived.Test.YtihgikekkgoddaaGreatDoorZLM
namespace Go.Proofs.YtihgikekkgoddaaGreatDoor
open Go.RowKit Go.Shelf Sto

/-- what lay in W0 from R on lies as it did, and none of it is the store's. -/
structure Safe (sb : Nat) (g : Gs) (R : Nat) (W0 W : World) : Prop where
  same : ∀ b, R ≤ b → b < W0.heap.size → W.heap[b]? = W0.heap[b]?
  apart : ∀ b, R ≤ b → b < W0.heap.size → ¬ foot sb g b
  size : W0.heap.size ≤ W.heap.size
theorem Safe.move {sb : Nat} {g g' : Gs} {R : Nat} {W0 W W' : World} {F : Nat → Prop} (h : Safe sb g R W0 W) (hk : Kept F W W') (hF : ∀ b, F b → foot sb g b ∨ b < R ∨ W0.heap.size ≤ b) (hf : ∀ b, foot sb g' b → foot sb g b ∨ W.heap.size ≤ b) : Safe sb g' R W0 W' :=
  ⟨fun b h1 h2 => (hk.block b (Nat.lt_of_lt_of_le h2 h.size) (fun hb => by
      rcases hF b hb with h3 | h3 | h3
      · exact h.apart b h1 h2 h3
      · omega
      · omega)).trans (h.same b h1 h2),
   fun b h1 h2 hb => (hf b hb).elim (h.apart b h1 h2) (fun h3 => by have := h.size; omega), Nat.le_trans h.size hk.size⟩
theorem Safe.below {sb : Nat} {g : Gs} {R : Nat} {W0 W W' : World} (h : Safe sb g R W0 W) (hb : Below W.heap.size W W') : Safe sb g R W0 W' :=
  h.move (F := fun _ => False) (kept_of_below hb) (fun _ hf => hf.elim) (fun _ hf => .inl hf)
theorem Safe.here {sb : Nat} {g : Gs} {R : Nat} {W : World} (h : ∀ b, foot sb g b → b < R) : Safe sb g R W W := ⟨fun _ _ _ => rfl, fun b h1 _ hb => by have := h b hb; omega, Nat.le_refl _⟩
def SnapAt (lo sb : Nat) (g : Gs) (W : World) (v : Value) (s : List UInt8) : Prop := ∃ R W0, lo ≤ R ∧ Safe sb g R W0 W ∧ Frm.Own R W0 v (ints s)
def RecsAt (lo sb : Nat) (g : Gs) (W : World) (v : Value) (recs : List (List UInt8)) : Prop := ∃ R W0, lo ≤ R ∧ Safe sb g R W0 W ∧ Recs R W0 v (recs.map ints)
theorem SnapAt.move {lo sb : Nat} {g g' : Gs} {W W' : World} {F : Nat → Prop} {v : Value} {s : List UInt8} (h : SnapAt lo sb g W v s) (hk : Kept F W W') (hF : ∀ b, F b → foot sb g b ∨ b < lo) (hf : ∀ b, foot sb g' b → foot sb g b ∨ W.heap.size ≤ b) : SnapAt lo sb g' W' v s := by
  obtain ⟨R, W0, h1, h2, h3⟩ := h
  exact ⟨R, W0, h1, h2.move hk (fun b hb => (hF b hb).imp id (fun h => .inl (by omega))) hf, h3⟩
theorem RecsAt.move {lo sb : Nat} {g g' : Gs} {W W' : World} {F : Nat → Prop} {v : Value} {s : List (List UInt8)} (h : RecsAt lo sb g W v s) (hk : Kept F W W') (hF : ∀ b, F b → foot sb g b ∨ b < lo) (hf : ∀ b, foot sb g' b → foot sb g b ∨ W.heap.size ≤ b) : RecsAt lo sb g' W' v s := by
  obtain ⟨R, W0, h1, h2, h3⟩ := h
  exact ⟨R, W0, h1, h2.move hk (fun b hb => (hF b hb).imp id (fun h => .inl (by omega))) hf, h3⟩
theorem SnapAt.own {lo sb : Nat} {g : Gs} {W : World} {v : Value} {s : List UInt8} (h : SnapAt lo sb g W v s) : Frm.Own lo W v (ints s) := by
  obtain ⟨R, W0, h1, h2, h3⟩ := h
  exact (h3.keep (fun b hb => h2.same b (h3.lt hb).1 (h3.lt hb).2)).base h1
theorem RecsAt.recs {lo sb : Nat} {g : Gs} {W : World} {v : Value} {l : List (List UInt8)} (h : RecsAt lo sb g W v l) : Recs lo W v (l.map ints) := by
  obtain ⟨R, W0, h1, h2, h3⟩ := h
  exact (h3.keep (fun b h4 h5 => h2.same b h4 h5)).base h1
theorem snapAt_nil (lo sb : Nat) (g : Gs) (W : World) (h : ∀ b, foot sb g b → b < W.heap.size) (hlo : lo ≤ W.heap.size) : SnapAt lo sb g W (.slice none 0 0) [] := ⟨W.heap.size, W, hlo, Safe.here h, Frm.own_nil _ _⟩
theorem recsAt_nil (lo sb : Nat) (g : Gs) (W : World) (h : ∀ b, foot sb g b → b < W.heap.size) (hlo : lo ≤ W.heap.size) : RecsAt lo sb g W (.slice none 0 0) [] := ⟨W.heap.size, W, hlo, Safe.here h, [], rfl, World.ownsRow_nil _ _ _ _, fun i hi => by simp at hi⟩

def stepsOf (a : Nat) : Array Value := #[.func (.func 25) #[] #[ptr a], .func (.func 27) #[] #[ptr a, ptr (a + 1)], .func (.func 29) #[] #[ptr a], .func (.func 31) #[] #[ptr a, ptr (a + 2)], .func (.func 33) #[] #[ptr a]]
def stepK : Nat → Nat | 0 => 25 | 1 => 27 | 2 => 29 | 3 => 31 | _ => 33
def stepB (a : Nat) : Nat → Array Value | 1 => #[ptr a, ptr (a + 1)] | 3 => #[ptr a, ptr (a + 2)] | _ => #[ptr a]
/-- the store and the log, the boxes from A on beside them. -/
structure OSt (B A lb : Nat) (WS W : World) (g g' : Gs) (sb : Nat) (x' : Lg) (t' : St) : Prop where
  bo : Bo B W lb g' t' x'
  kept : Kept (fun b => foot sb g b ∨ A ≤ b) WS W
  fresh : ∀ b, foot sb g' b → foot sb g b ∨ WS.heap.size ≤ b
  sb : x'.sb = sb
theorem OSt.trans {B A lb : Nat} {WS W W' : World} {g g1 g' : Gs} {sb : Nat} {x x' : Lg} {t t' : St} (a : OSt B A lb WS W g g1 sb x t) (b : BStep B lb W W' g1 g' x x' t') (hA : A ≤ WS.heap.size) (hl : A ≤ lb) : OSt B A lb WS W' g g' sb x' t' := by
  have hs := a.sb
  have fr : ∀ k, foot sb g1 k → foot sb g k ∨ WS.heap.size ≤ k := a.fresh
  refine ⟨b.bo, a.kept.trans b.kept (fun k hk => .inl ?_), fun k hk => ?_, b.sb.trans hs⟩
  · rcases hk with hk | hk
    · rw [hs] at hk
      exact (fr k hk).imp id (fun h => by omega)
    · exact .inr (by omega)
  · have := b.fresh k (by rw [b.sb, hs]; exact hk)
    rw [hs] at this
    exact this.elim (fr k) (fun h => .inr (Nat.le_trans a.kept.size h))
theorem OSt.box {B A lb : Nat} {WS W : World} {g g' : Gs} {sb : Nat} {x : Lg} {t : St} (a : OSt B A lb WS W g g' sb x t) (k : Nat) (v : Value) (hk : A ≤ k) (hn : ¬ foot sb g' k) (hl : k ≠ lb) : OSt B A lb WS (W.setCell ⟨k, 0, none⟩ v) g g' sb x t := by
  have hs := a.sb
  refine ⟨a.bo.keep (fun b hb => heap_set _ _ _ _ _ (fun e => ?_)) (by simp [World.setCell]), a.kept.trans (kept_set (F := fun b => b = k) _ _ _ _ rfl) (fun b hb => .inl (.inr (by omega))), a.fresh, hs⟩
  rcases hb with hb | hb
  · rw [hs, e] at hb; exact hn hb
  · omega
/-- what holds when so many steps of opening are done: A: where the boxes lie. -/
structure OpenI (B A lb : Nat) (WS : World) (g : Gs) (t : St) (sb : Nat) (p : List UInt8) (i : Nat) (W : World) (gi : Gs) (ti : St) (n c : Nat) (s : List UInt8) (recs : List (List UInt8)) (sv rv : Value) : Prop where
  run : OpenAt p t i ti n s recs
  st : OSt B A lb WS W g gi sb ⟨sb, p, n, c, false⟩ ti
  bl : Boxed W A 24 (ptr lb)
  bs : Boxed W (A + 1) 22 sv
  br : Boxed W (A + 2) 25 rv
  fs : W.heap[lb + 1]? = some (.cells (stepsOf A) 36)
  so : SnapAt (lb + 2) sb gi W sv s
  ro : RecsAt (lb + 2) sb gi W rv recs
  good : Good p (namesOf ti)
  acts : ti.acts ≤ t.acts + 2 * i
  small : n < 100
  cnt : 4 ≤ i → c = recs.length
  num : i < 2 → n = 0
end Go.Proofs.YtihgikekkgoddaaGreatDoor
