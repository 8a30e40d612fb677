/- What readers are asked for, as it lies in memory, and what the frame tells of it. -/
import Derived.Test.YthhfahnlcoiblaaOp2
import Derived.Test.YthhfahnlcoiblaaO2
namespace Go.Proofs.Ythhfahnlcoiblaa
open Go.ChangeShapes Go.WideShapes Go.ChangeAt Go.RowKit

structure Aq where
  k : Nat
  m : Int
structure Aq.Ok (x : Aq) : Prop where
  k : x.k < 256
  m : -9223372036854775808 ≤ x.m ∧ x.m ≤ 9223372036854775807
def IsQ (cs : List Value) (x : Aq) : Prop := x.Ok ∧ cs = [.int .u8 (x.k : Int), .int .i64 x.m]
theorem cellsAq : Try.prog.cellsOf 42 = 2 := by kernel_rfl
def IsQs (w : World) (v : Value) (l : List Aq) : Prop :=
  l.length ≤ maxLen ∧ ∃ a c, v = .slice a l.length c ∧ (l = [] ∨ ∃ b off, a = some ⟨b, off, none⟩ ∧ ∀ i (hi : i < l.length), ∃ cs, IsQ cs l[i] ∧ ∀ j, j < 2 → w.cell? ⟨b, off + i * 2 + j, none⟩ = cs[j]?)
section
variable {H : Type} {enc : TypeId × Value → H} {w : World} {base : Nat} {held : Bool}
set_option maxRecDepth 100000 in
theorem cells_ask {fuel : Nat} {cs : List Value} {x : DataW H × List MemPlace} (h : DataW.trod enc Try.prog w base (fun _ => true) held fuel 42 cs = some x) : ∃ y, IsQ cs y := by
  obtain ⟨xs, n, _, _, hcl, hxl, hf⟩ := DataW.trod_struct Try.underlying42 h
  rw [cellsAq] at hcl
  match cs, hcl with
  | [c0, c1], _ =>
  have hx : ∀ i, i < 2 → ∃ y, xs[i]? = some y := fun i hi => ⟨_, List.getElem?_eq_getElem (by rw [hxl]; exact hi)⟩
  obtain ⟨y0, e0⟩ := hx 0 (by decide)
  obtain ⟨y1, e1⟩ := hx 1 (by decide)
  have f0 : DataW.trod enc Try.prog w base (fun _ => true) held n 5 [c0] = some y0 := by
    have h0 := hf 0 _ rfl
    rw [e0] at h0
    simpa [k_u8] using h0
  have f1 : DataW.trod enc Try.prog w base (fun _ => true) held n 3 [c1] = some y1 := by
    have h0 := hf 1 _ rfl
    rw [e1] at h0
    simpa [k_int] using h0
  obtain ⟨z0, q0, _, w0⟩ := DataW.trod_int Try.underlying5 f0
  obtain ⟨z1, q1, _, w1⟩ := DataW.trod_int Try.underlying3 f1
  simp only [List.cons.injEq, and_true] at q0 q1
  subst q0 q1
  have h0 := wf_u8 w0
  refine ⟨⟨z0.toNat, z1⟩, ⟨by show z0.toNat < 256; omega, wf_i64 w1⟩, ?_⟩
  rw [show ((z0.toNat : Nat) : Int) = z0 by omega]
set_option maxRecDepth 100000 in
theorem open_asks {r : Reach} {base0 : Nat} {v : Value} {d : DataW H} {p : List MemPlace} (hv : Value.okWide Try.prog w r base0 35 v) (h : DataW.Trod enc Try.prog w base (fun _ => true) held 35 v d p) : ∃ l, IsQs w v l := by
  obtain ⟨a, len, cap, rfl⟩ := okWide_slice Try.underlying35 hv
  obtain ⟨fuel, hf⟩ := h
  rcases Go.Deep.open_slice Try.underlying35 hf with ⟨hcs, _⟩ | ⟨x, l, c, m, n, D, Pl, hcs, _, hl, hm, hmm, _, hx⟩
  · simp [Value.cells] at hcs
    obtain ⟨rfl, rfl, rfl⟩ := hcs
    exact ⟨[], by simp, none, 0, rfl, .inl rfl⟩
  · simp [Value.cells] at hcs
    obtain ⟨rfl, rfl, rfl⟩ := hcs
    have hm' : m = cap := by simpa using hmm
    rw [cellsAq] at hx
    have hall : ∀ i, i < len → ∃ y cs, IsQ cs y ∧ w.cells? base (x.add (i * 2)) 2 = some cs := fun i hi => by
      obtain ⟨cs', h1, h2⟩ := hx i (by omega)
      obtain ⟨y, hy⟩ := cells_ask h2
      exact ⟨y, cs', hy, h1⟩
    have hch : ∃ Y : Nat → Aq, ∀ i, i < len → ∃ cs, IsQ cs (Y i) ∧ w.cells? base (x.add (i * 2)) 2 = some cs := by
      refine ⟨fun i => if hi : i < len then Classical.choose (hall i hi) else ⟨0, 0⟩, fun i hi => ?_⟩
      simp only [hi, dif_pos]
      exact Classical.choose_spec (hall i hi)
    obtain ⟨Y, hY⟩ := hch
    have hlen : ((List.range len).map Y).length = len := by simp
    refine ⟨(List.range len).map Y, by omega, some x, cap, by rw [hlen], ?_⟩
    by_cases h0 : len = 0
    · left; simp [h0]
    · right
      obtain ⟨b, off, spot⟩ := x
      have hsp : spot = none := by
        obtain ⟨cs, _, h1⟩ := hY 0 (by omega)
        have h2 := (World.cells?_some h1).2.2 0 (by decide)
        obtain ⟨u, hu⟩ : ∃ u, w.cell? ((Addr.add ⟨b, off, spot⟩ (0 * 2)).add 0) = some u := by
          rw [h2]
          exact ⟨_, List.getElem?_eq_getElem (by have := (World.cells?_some h1).2.1; omega)⟩
        simpa [Addr.add] using World.cell?_spot hu
      subst hsp
      refine ⟨b, off, rfl, fun i hi => ?_⟩
      obtain ⟨cs, h1, h2⟩ := hY i (by omega)
      refine ⟨cs, by simpa using h1, fun j hj => ?_⟩
      have h3 := (World.cells?_some h2).2.2 j hj
      rw [Addr.add_lit, Addr.add_lit] at h3
      exact h3
end
theorem IsQs.slice {w : World} {v : Value} {l : List Aq} (h : IsQs w v l) : ∃ a c, v = .slice a l.length c := by obtain ⟨_, a, c, e, _⟩ := h; exact ⟨a, c, e⟩
theorem IsQs.get {w : World} {a : Option Addr} {n c : Nat} {l : List Aq} (h : IsQs w (.slice a n c) l) (k : Nat) (hk : k < l.length) : ∃ b off, a = some ⟨b, off, none⟩ ∧ l[k].Ok ∧ ∀ W, Below w.heap.size w W → W.cell? ⟨b, off + k * 2, none⟩ = some (.int .u8 (l[k].k : Int)) ∧ W.cell? ⟨b, off + k * 2 + 1, none⟩ = some (.int .i64 l[k].m) := by
  obtain ⟨_, a', c', e, h2⟩ := h
  cases e
  rcases h2 with h2 | ⟨b, off, ha, h2⟩
  · subst h2; cases hk
  · obtain ⟨cs, ⟨h3, rfl⟩, h6⟩ := h2 k hk
    have t : ∀ (W : World), Below w.heap.size w W → ∀ (o : Nat) (v : Value), w.cell? ⟨b, o, none⟩ = some v → W.cell? ⟨b, o, none⟩ = some v := fun W hb o v hv => (hb.cell (p := ⟨b, o, none⟩) (World.block_lt_of_cell? w _ hv)).trans hv
    exact ⟨b, off, ha, h3, fun W hb => ⟨t W hb _ _ (h6 0 (by decide)), t W hb _ _ (h6 1 (by decide))⟩⟩
theorem IsQs.below {w w' : World} {v : Value} {l : List Aq} (h : IsQs w v l) (hb : Below w.heap.size w w') : IsQs w' v l := by
  obtain ⟨h1, a, c, h2, h3⟩ := h
  refine ⟨h1, a, c, h2, h3.imp id ?_⟩
  rintro ⟨b, off, rfl, h4⟩
  refine ⟨b, off, rfl, fun i hi => ?_⟩
  obtain ⟨cs, h5, h6⟩ := h4 i hi
  refine ⟨cs, h5, fun j hj => ?_⟩
  have hlen : cs.length = 2 := by obtain ⟨_, rfl⟩ := h5; rfl
  have := h6 j hj
  rw [List.getElem?_eq_getElem (by omega)] at this ⊢
  exact (hb.cell (p := ⟨b, off + i * 2 + j, none⟩) (World.block_lt_of_cell? w _ this)).trans this
end Go.Proofs.Ythhfahnlcoiblaa
