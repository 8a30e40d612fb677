/- A value that was read is written by another writer. -/
import Derived.Test.YthhfahnlcoiblaaOp3
namespace Go.Proofs.Ythhfahnlcoiblaa
open Go.RowKit

theorem Many.get2 {B : Nat} {w0 w : World} {l : List Ob} (h : Many B w0 w l) (i : Nat) {o : Ob} (hi : l[i]? = some o) : ∃ F, o.At F w ∧ (∀ k, F k → B ≤ k) ∧ (∀ w' o', OTo F w w' o' → Many B w0 w' (l.set i o')) ∧ ∀ j oj, j ≠ i → l[j]? = some oj → ∀ w', Kept F w w' → ∃ G, oj.At G w' := by
  obtain ⟨F, h1, h2, h3⟩ := h.get i hi
  obtain ⟨Fs, g1, g2⟩ := h.ex
  have hil : i < l.length := (List.getElem?_eq_some_iff.1 hi).1
  have h' : Many B w0 w l := ⟨h.low, h.le, Fs, g1, g2⟩
  clear h1 h2 h3 F
  obtain ⟨hA, hB⟩ := g1 i o hi
  refine ⟨Fs i, hA, hB, fun w' o' ht => ?_, fun j oj hne hj w' hk => ⟨Fs j, (g1 j oj hj).1.keep hk.size fun k hkk => hk.block k ((g1 j oj hj).1.lt k hkk) fun hF => g2 i j k hil (List.getElem?_eq_some_iff.1 hj).1 (fun e => hne e.symm) hF hkk⟩⟩
  obtain ⟨F', hA', hk, hf⟩ := ht
  have hBF : ∀ k, F' k → B ≤ k := fun k hk' => (hf k hk').elim (hB k) fun hh => Nat.le_trans h.size hh
  refine ⟨h.low.trans (hk.below h.size hB), h.le, fun j => if j = i then F' else Fs j, fun j oj hj => ?_, fun a b k ha hb hab => ?_⟩
  · by_cases e : j = i
    · subst e
      rw [List.getElem?_set_self hil] at hj
      cases hj
      simp only [if_true]
      exact ⟨hA', hBF⟩
    · rw [List.getElem?_set_ne (fun e' => e e'.symm)] at hj
      simp only [e, if_false]
      have hj' := g1 j oj hj
      exact ⟨hj'.1.keep hk.size fun k hkk => hk.block k (hj'.1.lt k hkk) fun hF => g2 i j k hil (List.getElem?_eq_some_iff.1 hj).1 (fun e' => e e'.symm) hF hkk, hj'.2⟩
  · simp only [List.length_set] at ha hb
    have hlt : ∀ x, x < l.length → ∀ k, Fs x k → k < w.heap.size := fun x hx k hk' => (g1 x _ (List.getElem?_eq_getElem hx)).1.lt k hk'
    by_cases ea : a = i
    · by_cases eb : b = i
      · exact (hab (ea.trans eb.symm)).elim
      · simp only [ea, eb, if_true, if_false]
        intro hF hF2
        rcases hf k hF with h3 | h3
        · exact g2 i b k hil hb (fun e => eb e.symm) h3 hF2
        · have := hlt b hb k hF2; omega
    · by_cases eb : b = i
      · simp only [ea, eb, if_true, if_false]
        intro hF2 hF
        rcases hf k hF with h3 | h3
        · exact g2 a i k ha hil ea hF2 h3
        · have := hlt a ha k hF2; omega
      · simp only [ea, eb, if_false]
        exact g2 a b k ha hb hab
theorem m_writeBy {B : Nat} {w0 w : World} {l : List Ob} (h : Many B w0 w l) (i j : Nat) {p : Nat} {zs : List Int} (hi : l[i]? = some (.wr p zs)) (x : Vl) (lv : Value) (hj : l[j]? = some (.by_ lv x.l)) (hij : j ≠ i) (hx : x.Ok) (hls : x.l.length ≤ 70368744177664) (hss : x.s.length ≤ 70368744177664) (hl : zs.length ≤ 35184372088832) :
    Calls Try.prog 12 #[ptr p, agg x lv] w fun e w' => e = .returned (.tuple #[]) ∧ Many B w0 w' (l.set i (.wr p (zs ++ form x))) := by
  obtain ⟨F, ⟨q, sv, hA⟩, hF, ht, ho⟩ := h.get2 i hi
  refine (write_any x lv w hA hx (fun w' k => ?_) hls hss hl).mono fun e w' hh => ⟨hh.1, ht w' _ hh.2.ob⟩
  obtain ⟨G, hG⟩ := ho j _ hij hj w' k
  exact hG.1.isB
end Go.Proofs.Ythhfahnlcoiblaa
