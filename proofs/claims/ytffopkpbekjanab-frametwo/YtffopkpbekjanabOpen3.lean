/- What the frame tells of a slice of slices of bytes: its pieces, and that its length is within its capacity. -/
import Derived.Test.YtffopkpbekjanabOpen
namespace Go.Proofs.Ytffopkpbekjanab
open Go.ChangeShapes Go.WideShapes Go.ChangeAt Go.RowKit

def InCap (v : Value) (l : List (List Int)) : Prop := ∃ a c, v = .slice a l.length c ∧ l.length ≤ c ∧ c ≤ maxLen
section
variable {H : Type} {enc : TypeId × Value → H} {P : Program} {w : World} {base0 base : Nat} {held : Bool}
theorem open_pieces3 {t e q : TypeId} {r : Reach} {v : Value} {d : DataW H} {p : List MemPlace} (ht : P.underlying t = some (.slice e)) (he : P.underlying e = some (.slice q)) (hq : P.underlying q = some (.int .u8)) (ce : P.cellsOf e = 1) (cq : P.cellsOf q = 1)
    (hv : Value.okWide P w r base0 t v) (h : DataW.Trod enc P w base (fun _ => true) held t v d p) : ∃ l, IsP w v l ∧ InCap v l := by
  obtain ⟨l, hl⟩ := open_pieces ht he hq ce cq hv h
  refine ⟨l, hl, ?_⟩
  obtain ⟨a, len, cap, rfl⟩ := okWide_slice ht hv
  obtain ⟨_, a', c', e', _⟩ := hl
  cases e'
  obtain ⟨fuel, hf⟩ := h
  rcases Go.Deep.open_int_rows ht he hq ce cq hf with ⟨hcs, _⟩ | ⟨x, l', c, A, L, C, Z, hcs, _, hl', hm, _, hx⟩
  · simp [Value.cells] at hcs
    obtain ⟨rfl, h1, rfl⟩ := hcs
    exact ⟨none, 0, rfl, by rw [h1]; exact Nat.le_refl _, by unfold maxLen; omega⟩
  · simp [Value.cells] at hcs
    obtain ⟨rfl, h1, rfl⟩ := hcs
    exact ⟨_, cap, rfl, by rw [h1]; exact hl', hm⟩
end
end Go.Proofs.Ytffopkpbekjanab
