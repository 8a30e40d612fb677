/- What the frame tells of a slice of calls: of each that its numbers are of a size that can lie in memory. -/
import Derived.Test.YtinnegkkfaaceaaOpen2
import Derived.SizedLaws
namespace Go.Proofs.Ytinnegkkfaaceaa
open Go.ChangeShapes Go.WideShapes Go.ChangeAt Go.RowKit

section
variable {H : Type} {enc : TypeId × Value → H} {w : World} {base : Nat} {held : Bool}
theorem mem_weightsAll {P : Program} {e : TypeId} {ds : List (DataW H)} {d : DataW H} (h : d ∈ ds) {n : Nat} (hn : n ∈ d.weights P e) : n ∈ DataW.weightsAll P e ds := by
  induction ds with
  | nil => cases h
  | cons x ds ih =>
    rw [DataW.weightsAll]
    rcases List.mem_cons.1 h with h | h
    · subst h; exact List.mem_append.2 (.inl hn)
    · exact List.mem_append.2 (.inr (ih h))
theorem bytesInt : Try.prog.bytesOf 3 = 8 := by kernel_rfl
set_option maxRecDepth 100000 in
theorem act_keep {fuel : Nat} {cs : List Value} {x : DataW H × List MemPlace} {y : ActD} (h : DataW.trod enc Try.prog w base (fun _ => true) held fuel 33 cs = some x) (hy : IsAct w cs y) (hr : ∀ n ∈ x.1.weights Try.prog 33, n ≤ reachBytes) : y.keep.length ≤ 17592186044416 := by
  obtain ⟨xs, n, _, hx, _, hxl, hf⟩ := DataW.trod_struct Try.underlying33 h
  obtain ⟨_, vb, vk, rfl, _, hI⟩ := hy
  obtain ⟨y5, e5⟩ : ∃ y5, xs[5]? = some y5 := ⟨_, List.getElem?_eq_getElem (by rw [hxl]; decide)⟩
  have f5 : DataW.trod enc Try.prog w base (fun _ => true) held n 31 [vk] = some y5 := by
    have h5 := hf 5 _ rfl
    rw [e5] at h5
    simpa [k31] using h5
  obtain ⟨_, _, a, c, hv, _⟩ := hI
  rcases open_ints Try.underlying31 Try.underlying3 (by kernel_rfl) f5 with ⟨hcs, _⟩ | ⟨a', l, cap, zs, hcs, _, hl, hm, hz, hd, _, _⟩
  · simp at hcs
    rw [hcs] at hv
    injection hv with _ e _
    omega
  · simp at hcs
    rw [hcs] at hv
    injection hv with _ e _
    have hz' : zs.length = cap := by simpa using hz
    have hw : zs.length * 8 ∈ y5.1.weights Try.prog 31 := by
      rw [hd]
      show zs.length * 8 ∈ DataW.weights Try.prog 31 (.slice _ _)
      rw [DataW.weights, Try.underlying31]
      simp only [bytesInt]
      apply List.mem_cons.2
      left
      simp [lits]
      omega
    have := hr (zs.length * 8) (by
      rw [hx]
      show _ ∈ DataW.weights Try.prog 33 (.agg _)
      rw [DataW.weights, Try.underlying33]
      exact DataW.weights_mem_each (j := 5) (t := 31) rfl (by rw [List.getElem?_map, e5]; rfl) _ hw)
    unfold reachBytes at this
    omega
set_option maxRecDepth 100000 in
theorem open_acts3 {r : Reach} {base0 : Nat} {v : Value} {d : DataW H} {p : List MemPlace} (hv : Value.okWide Try.prog w r base0 22 v) (h : DataW.Trod enc Try.prog w base (fun _ => true) held 22 v d p) (hr : ∀ n ∈ d.weights Try.prog 22, n ≤ reachBytes) : ∃ l, IsActs w v l ∧ ∀ x ∈ l, x.keep.length ≤ 17592186044416 := by
  obtain ⟨a, len, cap, rfl⟩ := okWide_slice Try.underlying22 hv
  obtain ⟨fuel, hf⟩ := h
  rcases Go.Deep.open_slice Try.underlying22 hf with ⟨hcs, _⟩ | ⟨x, l, c, m, n, D, Pl, hcs, _, hl, hm, hmm, hd, hx⟩
  · simp [Value.cells] at hcs
    obtain ⟨rfl, rfl, rfl⟩ := hcs
    exact ⟨[], ⟨by simp, none, 0, rfl, .inl rfl⟩, by simp⟩
  · simp [Value.cells] at hcs
    obtain ⟨rfl, rfl, rfl⟩ := hcs
    have hd1 := congrArg Prod.fst hd
    simp only at hd1
    have hm' : m = cap := by simpa using hmm
    rw [cellsAct] at hx
    have hall : ∀ i, i < len → ∃ y, (∃ cs, IsAct w cs y ∧ w.cells? base (x.add (i * 6)) 6 = some cs) ∧ y.keep.length ≤ 17592186044416 := fun i hi => by
      obtain ⟨cs', h1, h2⟩ := hx i (by omega)
      obtain ⟨y, hy⟩ := cells_act h2
      refine ⟨y, ⟨cs', hy, h1⟩, act_keep h2 hy fun n hn => hr n ?_⟩
      rw [hd1, DataW.weights, Try.underlying22]
      simp only
      exact List.mem_cons.2 (.inr (List.mem_append.2 (.inl (mem_weightsAll (List.mem_map.2 ⟨i, List.mem_range.2 hi, rfl⟩) hn))))
    have hch : ∃ Y : Nat → ActD, ∀ i, i < len → (∃ cs, IsAct w cs (Y i) ∧ w.cells? base (x.add (i * 6)) 6 = some cs) ∧ (Y i).keep.length ≤ 17592186044416 := by
      refine ⟨fun i => if hi : i < len then Classical.choose (hall i hi) else ⟨0, [], [], [], 0, []⟩, fun i hi => ?_⟩
      simp only [hi, dif_pos]
      exact Classical.choose_spec (hall i hi)
    obtain ⟨Y, hY⟩ := hch
    have hlen : ((List.range len).map Y).length = len := by simp
    refine ⟨(List.range len).map Y, ⟨by omega, some x, cap, by rw [hlen], ?_⟩, fun z hz => ?_⟩
    · by_cases h0 : len = 0
      · left; simp [h0]
      · right
        obtain ⟨b, off, spot⟩ := x
        have hsp : spot = none := by
          obtain ⟨cs, _, h1⟩ := (hY 0 (by omega)).1
          have h2 := (World.cells?_some h1).2.2 0 (by decide)
          obtain ⟨u, hu⟩ : ∃ u, w.cell? ((Addr.add ⟨b, off, spot⟩ (0 * 6)).add 0) = some u := by
            rw [h2]
            exact ⟨_, List.getElem?_eq_getElem (by have := (World.cells?_some h1).2.1; omega)⟩
          simpa [Addr.add] using World.cell?_spot hu
        subst hsp
        refine ⟨b, off, rfl, fun i hi => ?_⟩
        obtain ⟨cs, h1, h2⟩ := (hY i (by omega)).1
        refine ⟨cs, by simpa using h1, fun j hj => ?_⟩
        have h3 := (World.cells?_some h2).2.2 j hj
        rw [Addr.add_lit, Addr.add_lit] at h3
        exact h3
    · obtain ⟨i, hi, rfl⟩ := List.mem_map.1 hz
      exact (hY i (List.mem_range.1 hi)).2
end
end Go.Proofs.Ytinnegkkfaaceaa
