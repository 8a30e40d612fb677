/- What the frame tells of a slice of slices of bytes: its pieces, and that each is of a size that can lie in memory. -/
import Derived.Test.YtfakplbgheljbaaOpen
import Derived.Test.YtfakplbgheljbaaW4
import Derived.SizedLaws
namespace Go.Proofs.Ytfakplbgheljbaa
open Go.ChangeShapes Go.WideShapes Go.ChangeAt Go.RowKit

section
variable {H : Type} {enc : TypeId × Value → H} {P : Program} {w : World} {base0 base : Nat} {held : Bool}
theorem mem_weightsAll {e : TypeId} {ds : List (DataW H)} {d : DataW H} (h : d ∈ ds) {n : Nat} (hn : n ∈ d.weights P e) : n ∈ DataW.weightsAll P e ds := by
  induction ds with
  | nil => cases h
  | cons x ds ih =>
    rw [DataW.weightsAll]
    rcases List.mem_cons.1 h with h | h
    · subst h; exact List.mem_append.2 (.inl hn)
    · exact List.mem_append.2 (.inr (ih h))
theorem open_pieces2 {t e q : TypeId} {r : Reach} {v : Value} {d : DataW H} {p : List MemPlace} (ht : P.underlying t = some (.slice e)) (he : P.underlying e = some (.slice q)) (hq : P.underlying q = some (.int .u8)) (ce : P.cellsOf e = 1) (cq : P.cellsOf q = 1) (bq : P.bytesOf q = 1)
    (hv : Value.okWide P w r base0 t v) (h : DataW.Trod enc P w base (fun _ => true) held t v d p) (hr : ∀ n ∈ d.weights P t, n ≤ reachBytes) : ∃ l, IsQ w v l ∧ ∀ z ∈ l, z.length ≤ 140737488351232 := by
  obtain ⟨a, len, cap, rfl⟩ := okWide_slice ht hv
  obtain ⟨fuel, hf⟩ := h
  rcases Go.Deep.open_int_rows ht he hq ce cq hf with ⟨hcs, _⟩ | ⟨x, l, c, A, L, C, Z, hcs, _, hl, hm, hd, hx⟩
  · simp [Value.cells] at hcs
    obtain ⟨rfl, rfl, rfl⟩ := hcs
    exact ⟨[], ⟨by simp, none, 0, rfl, .inl rfl⟩, by simp⟩
  · simp [Value.cells] at hcs
    obtain ⟨rfl, rfl, rfl⟩ := hcs
    have hd1 := congrArg Prod.fst hd
    simp only at hd1
    subst hd1
    refine ⟨(List.range len).map fun r => (Z r).take (L r), ⟨by simp; omega, some x, cap, by simp, ?_⟩, ?_⟩
    · by_cases h0 : len = 0
      · left; simp [h0]
      · right
        obtain ⟨b, off, spot⟩ := x
        have hc := (hx 0 (by omega)).1
        have hspot : spot = none := by simpa [Addr.add] using World.cell?_spot hc
        subst hspot
        refine ⟨b, off, rfl, fun i hi => ?_⟩
        simp at hi
        obtain ⟨e1, e2, e3, e4, e5, e6, e7⟩ := hx i (by omega)
        rw [Addr.add_lit] at e1
        refine ⟨_, e1, ?_, fun n c h => ?_⟩
        · have : ((List.range len).map fun r => (Z r).take (L r)).getD i [] = (Z i).take (L i) := by
            simp [List.getD, List.getElem?_map, List.getElem?_range hi]
          rw [this]
          exact isB_mk e2 e3 e4 e5 e6 (fun a' ha c hc => (e7 a' ha).2 c hc)
        · obtain ⟨h1, h2, h3⟩ : A i = none ∧ L i = n ∧ C i = c := by simpa using h
          rw [← h3]; exact e6 h1
    · intro z hz
      obtain ⟨i, hi, rfl⟩ := List.mem_map.1 hz
      have hi' : i < len := List.mem_range.1 hi
      obtain ⟨e1, e2, e3, e4, e5, e6, e7⟩ := hx i (by omega)
      have hlen : ((Z i).take (L i)).length ≤ C i := by simp; omega
      cases hA : A i with
      | none => have := e6 hA; omega
      | some a' =>
        have hw : C i ∈ (Go.Deep.intRow .u8 (A i) (L i) (Z i) : DataW H).weights P e := by
          rw [hA]
          show C i ∈ DataW.weights P e (.slice _ _)
          rw [DataW.weights, he]
          simp only [bq]
          apply List.mem_cons.2
          left
          simp [lits]
          omega
        have := hr (C i) (by
          rw [DataW.weights, ht]
          simp only
          apply List.mem_cons.2
          right
          apply List.mem_append.2
          left
          exact mem_weightsAll (List.mem_map.2 ⟨i, hi, rfl⟩) hw)
        unfold reachBytes at this
        omega
end
end Go.Proofs.Ytfakplbgheljbaa
