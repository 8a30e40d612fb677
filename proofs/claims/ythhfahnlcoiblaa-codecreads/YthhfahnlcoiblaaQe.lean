/- The document's Read: what lies in memory meanwhile, and at its end. -/
import Derived.Test.YthhfahnlcoiblaaQd
namespace Go.Proofs.Ythhfahnlcoiblaa
open Go.RowKit

theorem isB_other {w : World} {q o : Nat} {bs v : Value} {z : List Int} {t : Int} {fl : Bool} (h : IsB w bs z) (hq : w.heap[q]? = some (.cells #[bs, .int .i64 t, .bool fl] 40)) : IsB (w.setCell ⟨q, o, none⟩ v) bs z := by
  obtain ⟨h1, h2, a, cap, rfl, h4, h5, h3⟩ := h
  refine ⟨h1, h2, a, cap, rfl, h4, h5, ?_⟩
  rcases h3 with rfl | ⟨b, off, rfl, hc⟩
  · exact .inl rfl
  · refine .inr ⟨b, off, rfl, fun i hi => ?_⟩
    have hx := hc i hi
    by_cases e : b = q
    · subst e
      rw [cell_of hq] at hx
      exfalso
      generalize off + i = j at hx
      match j, hx with
      | 0, hx => simp at hx
      | 1, hx => simp at hx
      | 2, hx => simp at hx
      | j + 3, hx => simp at hx
    · rw [cell_block (heap_set _ _ _ _ _ e)]; exact hx
/-- between Read's beginning and its end: its two boxes are laid. -/
structure QSt (w w1 : World) (q : Nat) (bs : Value) (z : List Int) (at_ : Nat) (fl : Bool) (kk : Int) : Prop where
  ref : RefAt w1 q bs z at_ fl
  kept : Kept (· = q) w w1
  res : w1.heap[w.heap.size]? = some (.cells (zcells 0) 29)
  out : w1.heap[w.heap.size + 1]? = some (.cells (zcells kk) 29)
  lt : q < w.heap.size
theorem QSt.first {w : World} {q : Nat} {bs : Value} {z : List Int} {at_ : Nat} {fl : Bool} (kk : Int) (h : RefAt w q bs z at_ fl) : QSt w ((w.alloc (.cells (zcells 0) 29)).alloc (.cells (zcells kk) 29)) q bs z at_ fl kk := by
  have hw := ((Below.refl w.heap.size w).alloc (Nat.le_refl _) (.cells (zcells 0) 29)).alloc (by simp) (.cells (zcells kk) 29)
  have b := two_blocks w (.cells (zcells 0) 29) (.cells (zcells kk) 29)
  exact ⟨h.below hw, kept_of_below hw, b.1, b.2, lt_of_block h.cell⟩
theorem QSt.later {w w1 w2 : World} {q : Nat} {bs : Value} {z : List Int} {at_ : Nat} {fl : Bool} {kk : Int} (h : QSt w w1 q bs z at_ fl kk) (hb : Below w1.heap.size w1 w2) : QSt w w2 q bs z at_ fl kk :=
  ⟨h.ref.below hb, h.kept.trans (kept_of_below (F := (· = q)) hb) fun _ hk => .inl hk, (hb.block _ (lt_of_block h.res)).trans h.res, (hb.block _ (lt_of_block h.out)).trans h.out, h.lt⟩
theorem QSt.at {w w1 : World} {q : Nat} {bs : Value} {z : List Int} {at_ : Nat} {fl : Bool} {kk : Int} (h : QSt w w1 q bs z at_ fl kk) (t : Nat) (ht : t ≤ z.length) : QSt w (w1.setCell ⟨q, 1, none⟩ (.int .i64 (t : Int))) q bs z t fl kk := by
  have hlt := h.lt
  refine ⟨⟨heap_set_at h.ref.cell _, isB_other h.ref.b h.ref.cell, ht, h.ref.few⟩, h.kept.set _ _ _ rfl, ?_, ?_, hlt⟩
  · rw [heap_set _ _ _ _ _ (by omega)]; exact h.res
  · rw [heap_set _ _ _ _ _ (by omega)]; exact h.out
theorem QSt.fail {w w1 : World} {q : Nat} {bs : Value} {z : List Int} {at_ : Nat} {fl : Bool} {kk : Int} (h : QSt w w1 q bs z at_ fl kk) : QSt w (w1.setCell ⟨q, 2, none⟩ (.bool true)) q bs z at_ true kk := by
  have hlt := h.lt
  refine ⟨⟨heap_set_at h.ref.cell _, isB_other h.ref.b h.ref.cell, h.ref.le, h.ref.few⟩, h.kept.set _ _ _ rfl, ?_, ?_, hlt⟩
  · rw [heap_set _ _ _ _ _ (by omega)]; exact h.res
  · rw [heap_set _ _ _ _ _ (by omega)]; exact h.out
theorem QSt.num {w w1 w2 : World} {q : Nat} {bs : Value} {z : List Int} {at_ : Nat} {kk : Int} {e : Ending} (h : QSt w w1 q bs z at_ false kk) (hn : QNum w1 q z at_ e w2) :
    (numP (z.drop at_) = none ∧ e = .returned (.tuple #[.int .u64 0, .bool false]) ∧ QSt w w2 q bs z at_ false kk) ∨
    ∃ n k, numP (z.drop at_) = some (n, k) ∧ e = .returned (.tuple #[.int .u64 (n : Int), .bool true]) ∧ n < 18446744073709551616 ∧ at_ + k ≤ z.length ∧ QSt w w2 q bs z (at_ + k) false kk := by
  unfold QNum at hn
  cases hp : numP (z.drop at_) with
  | none =>
    rw [hp] at hn
    exact .inl ⟨rfl, hn.1, h.later hn.2⟩
  | some x =>
    obtain ⟨n, k⟩ := x
    rw [hp] at hn
    obtain ⟨he, w3, hb, rfl⟩ := hn
    have hD : Byt (z.drop at_) := h.ref.b.byt.drop _
    have h1 := (numP_some hD hp).1
    have h2 := (numP_len hD hp).2.2.1
    have hle := h.ref.le
    have h3 : at_ + k ≤ z.length := by simp at h2; omega
    exact .inr ⟨n, k, rfl, he, h1, h3, (h.later hb).at _ h3⟩
theorem QSt.cells {w w1 : World} {q : Nat} {bs : Value} {z : List Int} {at_ : Nat} {fl : Bool} {kk : Int} (h : QSt w w1 q bs z at_ fl kk) :
    (w1.cell? ⟨w.heap.size, 0, none⟩ = some (.int .u8 0) ∧ w1.cell? ⟨w.heap.size, 1, none⟩ = some (.int .u64 0) ∧ w1.cell? ⟨w.heap.size, 2, none⟩ = some (.int .i64 0) ∧ w1.cell? ⟨w.heap.size, 3, none⟩ = some (.bool false) ∧ w1.cell? ⟨w.heap.size, 4, none⟩ = some (.slice none 0 0) ∧ w1.cell? ⟨w.heap.size, 5, none⟩ = some (.string ⟨#[]⟩) ∧ w1.cell? ⟨w.heap.size, 6, none⟩ = some (.int .i64 0)) ∧
    (w1.cell? ⟨w.heap.size + 1, 0, none⟩ = some (.int .u8 kk) ∧ w1.cell? ⟨w.heap.size + 1, 1, none⟩ = some (.int .u64 0) ∧ w1.cell? ⟨w.heap.size + 1, 2, none⟩ = some (.int .i64 0) ∧ w1.cell? ⟨w.heap.size + 1, 3, none⟩ = some (.bool false) ∧ w1.cell? ⟨w.heap.size + 1, 4, none⟩ = some (.slice none 0 0) ∧ w1.cell? ⟨w.heap.size + 1, 5, none⟩ = some (.string ⟨#[]⟩) ∧ w1.cell? ⟨w.heap.size + 1, 6, none⟩ = some (.int .i64 0)) ∧
    (∀ o, w1.frozen? ⟨w.heap.size, o, none⟩ = false) ∧ (∀ o, w1.frozen? ⟨w.heap.size + 1, o, none⟩ = false) ∧
    (w1.cell? ⟨q, 0, none⟩ = some bs ∧ w1.cell? ⟨q, 1, none⟩ = some (.int .i64 (at_ : Int)) ∧ w1.cell? ⟨q, 2, none⟩ = some (.bool fl)) ∧ (∀ o, w1.frozen? ⟨q, o, none⟩ = false) := by
  refine ⟨?_, ?_, fun o => frozen_of h.res o, fun o => frozen_of h.out o, ?_, fun o => frozen_of h.ref.cell o⟩
  · simp only [cell_of h.res]; exact ⟨rfl, rfl, rfl, rfl, rfl, rfl, rfl⟩
  · simp only [cell_of h.out]; exact ⟨rfl, rfl, rfl, rfl, rfl, rfl, rfl⟩
  · simp only [cell_of h.ref.cell]; exact ⟨rfl, rfl, rfl⟩
/-- the boxes are written. -/
abbrev Bx (s k : Nat) : Prop := k = s ∨ k = s + 1
theorem kept7 (w1 : World) (s : Nat) (v0 v1 v2 v3 v4 v5 v6 : Value) : Kept (Bx s) w1 (((((((w1.setCell ⟨s, 0, none⟩ v0).setCell ⟨s, 1, none⟩ v1).setCell ⟨s, 2, none⟩ v2).setCell ⟨s, 3, none⟩ v3).setCell ⟨s, 4, none⟩ v4).setCell ⟨s, 5, none⟩ v5).setCell ⟨s, 6, none⟩ v6) :=
  (((((((Kept.refl _ _).set _ _ _ (.inl rfl)).set _ _ _ (.inl rfl)).set _ _ _ (.inl rfl)).set _ _ _ (.inl rfl)).set _ _ _ (.inl rfl)).set _ _ _ (.inl rfl)).set _ _ _ (.inl rfl)
theorem kept9 (w1 : World) (s j j' : Nat) (x x' v0 v1 v2 v3 v4 v5 v6 : Value) : Kept (Bx s) w1 (((((((((w1.setCell ⟨s + 1, j, none⟩ x).setCell ⟨s + 1, j', none⟩ x').setCell ⟨s, 0, none⟩ v0).setCell ⟨s, 1, none⟩ v1).setCell ⟨s, 2, none⟩ v2).setCell ⟨s, 3, none⟩ v3).setCell ⟨s, 4, none⟩ v4).setCell ⟨s, 5, none⟩ v5).setCell ⟨s, 6, none⟩ v6) :=
  (((((((((Kept.refl _ _).set _ _ _ (.inr rfl)).set _ _ _ (.inr rfl)).set _ _ _ (.inl rfl)).set _ _ _ (.inl rfl)).set _ _ _ (.inl rfl)).set _ _ _ (.inl rfl)).set _ _ _ (.inl rfl)).set _ _ _ (.inl rfl)).set _ _ _ (.inl rfl)
theorem QSt.fin {w w1 w2 : World} {q : Nat} {bs : Value} {z : List Int} {at_ at0 : Nat} {fl : Bool} {kk : Int} (h : QSt w w1 q bs z at_ fl kk) (k2 : Kept (Bx w.heap.size) w1 w2) (k : Nat) (most : Int) {y : Vl} {st : St} {a : Option Addr} {c : Nat} (hr : readP k most (stOf z at0 false) = (y, st)) (hst : stOf z at_ fl = st) (ho : Own (w.heap.size + 2) w1 (.slice a y.l.length c) y.l) : QRead w q bs z at0 false k most (.returned (agg y (.slice a y.l.length c))) w2 := by
  have hlt := h.lt
  refine ⟨a, c, at_, fl, by rw [hr], by rw [hr]; exact Own.boxes ho (by omega) k2, by rw [hr]; exact hst, h.ref.le, ?_, h.kept.trans k2 fun k hk => .inr (by unfold Bx at hk; omega)⟩
  rw [k2.block q (lt_of_block h.ref.cell) (by unfold Bx; omega)]
  exact h.ref.cell
theorem stF (z : List Int) (at_ : Nat) : stOf z at_ false = some (z.drop at_) := rfl
theorem stT (z : List Int) (at_ : Nat) : stOf z at_ true = none := rfl
theorem drop2 (z : List Int) (i k : Nat) : (z.drop i).drop k = z.drop (i + k) := by rw [List.drop_drop]
theorem rnum_no {D : List Int} (m : Nat) (h : numP D = none) : rnum m (some D) = (0, none) := by rw [rnum_eq]; unfold rnumL; rw [h]
theorem rnum_ok {D : List Int} {m n k : Nat} (h : numP D = some (n, k)) (hm : n ≤ m) : rnum m (some D) = (n, some (D.drop k)) := by rw [rnum_eq]; unfold rnumL; rw [h]; simp only; rw [if_pos hm]
theorem rnum_big {D : List Int} {m n k : Nat} (h : numP D = some (n, k)) (hm : ¬ n ≤ m) : rnum m (some D) = (0, none) := by rw [rnum_eq]; unfold rnumL; rw [h]; simp only; rw [if_neg hm]
theorem readP_no {D : List Int} (k : Nat) (most : Int) (hk : k ≤ 5) (h2 : k ≠ 2) (h : numP D = none) : readP k most (some D) = (zeroV k, none) := by
  obtain rfl | rfl | rfl | rfl | rfl : k = 0 ∨ k = 1 ∨ k = 3 ∨ k = 4 ∨ k = 5 := by omega
  · simp only [readP, rnum_no _ h]; rfl
  · simp only [readP, rnum_no _ h]; rfl
  · simp only [readP, rpiece, rnum_no _ h]; rfl
  · simp only [readP, rpiece, rnum_no _ h]; rfl
  · simp only [readP, rnum_no _ h]; split <;> rfl
theorem rpiece_ok {D : List Int} {n k : Nat} (h : numP D = some (n, k)) (hn : n < 18446744073709551616) (hl : n ≤ (D.drop k).length) : rpiece (some D) = ((D.drop k).take n, some ((D.drop k).drop n)) := by
  unfold rpiece; rw [rnum_ok h (by omega)]; simp only; rw [if_pos hl]
theorem rpiece_no {D : List Int} {n k : Nat} (h : numP D = some (n, k)) (hn : n < 18446744073709551616) (hl : ¬ n ≤ (D.drop k).length) : rpiece (some D) = ([], none) := by
  unfold rpiece; rw [rnum_ok h (by omega)]; simp only; rw [if_neg hl]
end Go.Proofs.Ythhfahnlcoiblaa
