/- LogRecovers: its acts as they lie in memory, and what the frame tells of them; the law's great. -/
import Derived.Test.YtihgikekkgoddaaGreatDoorZSGreat
import Derived.Test.YtihgikekkgoddaaGreatDoorZOp
import Derived.Test.YtihgikekkgoddaaGreatDoorZSy1
namespace Go.Proofs.YtihgikekkgoddaaGreatDoor
open Go.ChangeShapes Go.WideShapes Go.ChangeAt Go.RowKit Go.Shelf Sto

structure LAct where
  kind : Nat
  fl : ActD
  name : List UInt8
  b : List UInt8
def IsL (w : World) (cs : List Value) (x : LAct) : Prop :=
  x.kind < 256 ∧ x.name.length ≤ maxLen ∧ ∃ fcs vb, cs = .int .u8 (x.kind : Int) :: (fcs ++ [str x.name, vb]) ∧ IsAct w fcs x.fl ∧ Frm.IsB w vb (ints x.b)
theorem IsL.below {w w' : World} {cs : List Value} {x : LAct} (h : IsL w cs x) (hb : Below w.heap.size w w') : IsL w' cs x := by
  obtain ⟨h1, h2, fcs, vb, h3, h4, h5⟩ := h
  exact ⟨h1, h2, fcs, vb, h3, h4.below hb, h5.below hb⟩
def IsLs (w : World) (v : Value) (l : List LAct) : Prop :=
  l.length ≤ maxLen ∧ ∃ a c, v = .slice a l.length c ∧ (l = [] ∨ ∃ b off, a = some ⟨b, off, none⟩ ∧ ∀ i (hi : i < l.length), ∃ cs, IsL w cs l[i] ∧ ∀ j, j < 9 → w.cell? ⟨b, off + i * 9 + j, none⟩ = cs[j]?)
theorem IsLs.at {w : World} {a : Option Addr} {n c : Nat} {l : List LAct} (h : IsLs w (.slice a n c) l) (k : Nat) (hk : k < l.length) : ∃ b off fb fk vb, a = some ⟨b, off, none⟩ ∧ l[k].kind < 256 ∧ l[k].name.length ≤ maxLen ∧ ActOk l[k].fl ∧ IsB w fb l[k].fl.b ∧ IsI w fk l[k].fl.keep ∧ Frm.IsB w vb (ints l[k].b) ∧
    w.cell? ⟨b, off + k * 9, none⟩ = some (.int .u8 (l[k].kind : Int)) ∧ w.cell? ⟨b, off + k * 9 + 1, none⟩ = some (.int .u8 (l[k].fl.kind : Int)) ∧ w.cell? ⟨b, off + k * 9 + 2, none⟩ = some (str l[k].fl.name) ∧ w.cell? ⟨b, off + k * 9 + 3, none⟩ = some (str l[k].fl.other) ∧ w.cell? ⟨b, off + k * 9 + 4, none⟩ = some fb ∧ w.cell? ⟨b, off + k * 9 + 5, none⟩ = some (.int .i64 l[k].fl.n) ∧ w.cell? ⟨b, off + k * 9 + 6, none⟩ = some fk ∧ w.cell? ⟨b, off + k * 9 + 7, none⟩ = some (str l[k].name) ∧ w.cell? ⟨b, off + k * 9 + 8, none⟩ = some vb := by
  obtain ⟨_, a', c', e, h2⟩ := h
  cases e
  rcases h2 with h2 | ⟨b, off, ha, h2⟩
  · subst h2; cases hk
  · obtain ⟨cs, ⟨h3, h4, fcs, vb, rfl, ⟨h5, fb, fk, rfl, h6, h7⟩, h8⟩, h9⟩ := h2 k hk
    exact ⟨b, off, fb, fk, vb, ha, h3, h4, h5, h6, h7, h8, h9 0 (by decide), h9 1 (by decide), h9 2 (by decide), h9 3 (by decide), h9 4 (by decide), h9 5 (by decide), h9 6 (by decide), h9 7 (by decide), h9 8 (by decide)⟩
theorem IsLs.below {w w' : World} {v : Value} {l : List LAct} (h : IsLs w v l) (hb : Below w.heap.size w w') : IsLs w' v l := by
  obtain ⟨h1, a, c, h2, h3⟩ := h
  refine ⟨h1, a, c, h2, h3.imp id ?_⟩
  rintro ⟨b, off, rfl, h4⟩
  refine ⟨b, off, rfl, fun i hi => ?_⟩
  obtain ⟨cs, h5, h6⟩ := h4 i hi
  refine ⟨cs, h5.below hb, fun j hj => ?_⟩
  have hlen : cs.length = 9 := by obtain ⟨_, _, fcs, vb, rfl, ⟨_, fb, fk, rfl, _⟩, _⟩ := h5; rfl
  have := h6 j hj
  rw [List.getElem?_eq_getElem (by omega)] at this ⊢
  exact (hb.cell (p := ⟨b, off + i * 9 + j, none⟩) (World.block_lt_of_cell? w _ this)).trans this
theorem cellsL : Tryz.prog.cellsOf 51 = 9 := by kernel_rfl
section
variable {H : Type} {enc : TypeId × Value → H} {w : World} {base : Nat} {held : Bool}
theorem cells_byts {fuel : Nat} {v : Value} {x : DataW H × List MemPlace} (h : DataW.trod enc Tryz.prog w base (fun _ => true) held fuel 22 [v] = some x) : ∃ bs, Frm.IsB w v (ints bs) := by
  rcases open_ints Tryz.underlying22 Tryz.underlying5 (by kernel_rfl) h with ⟨hcs, _⟩ | ⟨a, l, c, zs, hcs, _, hl, hm, hz, _, hcell, hwz⟩
  · simp at hcs; subst hcs
    exact ⟨[], by simp [ints], by simp [ints], none, 0, rfl, by simp [ints], by simp, .inl rfl⟩
  · simp at hcs; subst hcs
    have hz' : zs.length = c := by simpa using hz
    exact ⟨_, Go.Proofs.YtihgikekkgoddaaGreatDoor.isB_mk hl hm hz' hwz (fun h => by cases h) (fun a' h i hi => by cases h; exact hcell i (by omega))⟩
set_option maxRecDepth 100000 in
theorem cells_lact {fuel : Nat} {cs : List Value} {x : DataW H × List MemPlace} (h : DataW.trod enc Tryz.prog w base (fun _ => true) held fuel 51 cs = some x) : ∃ y, IsL w cs y := by
  obtain ⟨xs, n, _, _, hcl, hxl, hf⟩ := DataW.trod_struct Tryz.underlying51 h
  rw [cellsL] at hcl
  match cs, hcl with
  | [c0, c1, c2, c3, c4, c5, c6, c7, c8], _ =>
  have hx : ∀ i, i < 4 → ∃ y, xs[i]? = some y := fun i hi => ⟨_, List.getElem?_eq_getElem (by rw [hxl]; exact hi)⟩
  obtain ⟨y0, e0⟩ := hx 0 (by decide)
  obtain ⟨y1, e1⟩ := hx 1 (by decide)
  obtain ⟨y2, e2⟩ := hx 2 (by decide)
  obtain ⟨y3, e3⟩ := hx 3 (by decide)
  have f0 : DataW.trod enc Tryz.prog w base (fun _ => true) held n 5 [c0] = some y0 := by
    have h0 := hf 0 _ rfl
    rw [e0] at h0
    simpa [k5] using h0
  have f1 : DataW.trod enc Tryz.prog w base (fun _ => true) held n 49 [c1, c2, c3, c4, c5, c6] = some y1 := by
    have h1 := hf 1 _ rfl
    rw [e1] at h1
    simpa [cellsAct] using h1
  have f2 : DataW.trod enc Tryz.prog w base (fun _ => true) held n 9 [c7] = some y2 := by
    have h2 := hf 2 _ rfl
    rw [e2] at h2
    simpa [k9] using h2
  have f3 : DataW.trod enc Tryz.prog w base (fun _ => true) held n 22 [c8] = some y3 := by
    have h3 := hf 3 _ rfl
    rw [e3] at h3
    simpa [k30] using h3
  obtain ⟨a, q0, _, wa⟩ := DataW.trod_int Tryz.underlying5 f0
  obtain ⟨fl, hfl⟩ := cells_act f1
  obtain ⟨s2, q2, _, l2⟩ := DataW.trod_string Tryz.underlying9 f2
  obtain ⟨bs, hB⟩ := cells_byts f3
  simp only [List.cons.injEq, and_true] at q0 q2
  subst q0 q2
  have ha := Go.Proofs.YtihgikekkgoddaaGreatDoor.wf_u8 wa
  refine ⟨⟨a.toNat, fl, s2.data.toList, bs⟩, by show a.toNat < 256; omega, by show s2.data.toList.length ≤ _; rw [Array.length_toList]; exact l2, _, c8, ?_, hfl, hB⟩
  rw [str_of s2, show ((a.toNat : Nat) : Int) = a by omega]
  rfl
set_option maxRecDepth 100000 in
theorem open_lacts {r : Reach} {base0 : Nat} {v : Value} {d : DataW H} {p : List MemPlace} (hv : Value.okWide Tryz.prog w r base0 40 v) (h : DataW.Trod enc Tryz.prog w base (fun _ => true) held 40 v d p) : ∃ l, IsLs w v l := by
  obtain ⟨a, len, cap, rfl⟩ := okWide_slice Tryz.underlying40 hv
  obtain ⟨fuel, hf⟩ := h
  rcases Go.Deep.open_slice Tryz.underlying40 hf with ⟨hcs, _⟩ | ⟨x, l, c, m, n, D, Pl, hcs, _, hl, hm, hmm, _, hx⟩
  · simp [Value.cells] at hcs
    obtain ⟨rfl, rfl, rfl⟩ := hcs
    exact ⟨[], by simp, none, 0, rfl, .inl rfl⟩
  · simp [Value.cells] at hcs
    obtain ⟨rfl, rfl, rfl⟩ := hcs
    have hm' : m = cap := by simpa using hmm
    rw [cellsL] at hx
    have hall : ∀ i, i < len → ∃ y cs, IsL w cs y ∧ w.cells? base (x.add (i * 9)) 9 = some cs := fun i hi => by
      obtain ⟨cs', h1, h2⟩ := hx i (by omega)
      obtain ⟨y, hy⟩ := cells_lact h2
      exact ⟨y, cs', hy, h1⟩
    have hch : ∃ Y : Nat → LAct, ∀ i, i < len → ∃ cs, IsL w cs (Y i) ∧ w.cells? base (x.add (i * 9)) 9 = some cs := by
      refine ⟨fun i => if hi : i < len then Classical.choose (hall i hi) else ⟨0, ⟨0, [], [], [], 0, []⟩, [], []⟩, fun i hi => ?_⟩
      simp only [hi, dif_pos]
      exact Classical.choose_spec (hall i hi)
    obtain ⟨Y, hY⟩ := hch
    have hlen : ((List.range len).map Y).length = len := by simp
    refine ⟨(List.range len).map Y, by omega, some x, cap, by rw [hlen], ?_⟩
    by_cases h0 : len = 0
    · left; simp [h0]
    · right
      obtain ⟨b, off, spot⟩ := x
      have hsp : spot = none := by
        obtain ⟨cs, _, h1⟩ := hY 0 (by omega)
        have h2 := (World.cells?_some h1).2.2 0 (by decide)
        obtain ⟨u, hu⟩ : ∃ u, w.cell? ((Addr.add ⟨b, off, spot⟩ (0 * 9)).add 0) = some u := by
          rw [h2]
          exact ⟨_, List.getElem?_eq_getElem (by have := (World.cells?_some h1).2.1; omega)⟩
        simpa [Addr.add] using World.cell?_spot hu
      subst hsp
      refine ⟨b, off, rfl, fun i hi => ?_⟩
      obtain ⟨cs, h1, h2⟩ := hY i (by omega)
      refine ⟨cs, by simpa using h1, fun j hj => ?_⟩
      have h3 := (World.cells?_some h2).2.2 j hj
      rw [Addr.add_lit, Addr.add_lit] at h3
      exact h3
set_option maxRecDepth 100000 in
theorem open_nums {r : Reach} {base0 : Nat} {v : Value} {d : DataW H} {p : List MemPlace} (hv : Value.okWide Tryz.prog w r base0 41 v) (h : DataW.Trod enc Tryz.prog w base (fun _ => true) held 41 v d p) : ∃ l, IsI w v l := by
  obtain ⟨a, len, cap, rfl⟩ := okWide_slice Tryz.underlying41 hv
  obtain ⟨fuel, hf⟩ := h
  exact cells_ints (v := .slice a len cap) (by simpa [Value.cells] using hf)
end
def bytes5 (l : List LAct) (k : Nat) : Nat := ((l.take k).map fun x => x.b.length + x.name.length).sum
theorem bytes5_succ (l : List LAct) (k : Nat) (hk : k < l.length) : bytes5 l (k + 1) = bytes5 l k + (l[k].b.length + l[k].name.length) := by
  unfold bytes5
  rw [List.take_succ_eq_append_getElem hk, List.map_append, List.sum_append]
  congr 1
/-- not too many acts, not too many bytes. -/
def Fit5 (l : List LAct) : Prop := l.length ≤ 100 ∧ bytes5 l l.length ≤ 30000
/-- six cells each. -/
theorem flat_at : ∀ (L : List (List Value)), (∀ x ∈ L, x.length = 6) → ∀ (i j : Nat) (hi : i < L.length), j < 6 → L.flatten[i * 6 + j]? = L[i][j]?
  | [], _, i, j, hi, _ => by simp at hi
  | x :: L, h, 0, j, _, hj => by
    have hx := h x (by simp)
    rw [List.flatten_cons, Nat.zero_mul, Nat.zero_add, List.getElem?_append_left (by omega)]
    rfl
  | x :: L, h, i + 1, j, hi, hj => by
    have hx := h x (by simp)
    rw [List.flatten_cons, List.getElem?_append_right (by omega), show (i + 1) * 6 + j - x.length = i * 6 + j by omega, flat_at L (fun y hy => h y (by simp [hy])) i j (by simpa using hi) hj]
    rfl
set_option maxRecDepth 100000 in
theorem actInfo : (Tryz.prog.info? 49).map (fun i => (i.zero, i.size, i.bytes)) = some (some (.agg #[.int .u8 0, .string ⟨#[]⟩, .string ⟨#[]⟩, .slice none 0 0, .int .i64 0, .slice none 0 0]), 6, 96) := by kernel_rfl
end Go.Proofs.YtihgikekkgoddaaGreatDoor
