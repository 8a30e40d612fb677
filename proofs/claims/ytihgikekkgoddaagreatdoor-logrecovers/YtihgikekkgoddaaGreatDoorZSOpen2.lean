/- What the frame tells of a call that is laid down (Act): its six fields; of a slice of such; of a slice of numbers. -/
import Derived.Test.YtihgikekkgoddaaGreatDoorZSOpen
import Derived.Deep.Slices
namespace Go.Proofs.YtihgikekkgoddaaGreatDoor.Sto
open Go.ChangeShapes Go.WideShapes Go.ChangeAt Go.RowKit

/-- a call. -/
structure ActD where
  kind : Nat
  name : List UInt8
  other : List UInt8
  b : List UInt8
  n : Int
  keep : List Int
structure ActOk (x : ActD) : Prop where
  kind : x.kind < 256
  name : x.name.length ≤ maxLen
  other : x.other.length ≤ maxLen
  n : -9223372036854775808 ≤ x.n ∧ x.n ≤ 9223372036854775807
/-- six cells that are a call. -/
def IsAct (w : World) (cs : List Value) (x : ActD) : Prop :=
  ActOk x ∧ ∃ vb vk, cs = [.int .u8 (x.kind : Int), str x.name, str x.other, vb, .int .i64 x.n, vk] ∧ IsB w vb x.b ∧ IsI w vk x.keep
theorem IsI.below {w w' : World} {v : Value} {ks : List Int} (h : IsI w v ks) (hb : Below w.heap.size w w') : IsI w' v ks := h.kept fun _ b _ hl => hb.block b hl
theorem IsAct.below {w w' : World} {cs : List Value} {x : ActD} (h : IsAct w cs x) (hb : Below w.heap.size w w') : IsAct w' cs x := by
  obtain ⟨h1, vb, vk, h2, h3, h4⟩ := h
  exact ⟨h1, vb, vk, h2, h3.below hb, h4.below hb⟩
theorem wf_i64 {z : Int} (h : (Lit.int .i64 z).wf = true) : -9223372036854775808 ≤ z ∧ z ≤ 9223372036854775807 := by
  simp [Lit.wf, IntKind.min, IntKind.max, IntKind.bits, IntKind.signed] at h
  omega
theorem cellsAct : Tryz.prog.cellsOf 49 = 6 := by kernel_rfl
theorem k3 : Tryz.prog.cellsOf 3 = 1 := by kernel_rfl
theorem k5 : Tryz.prog.cellsOf 5 = 1 := by kernel_rfl
theorem k9 : Tryz.prog.cellsOf 9 = 1 := by kernel_rfl
theorem k30 : Tryz.prog.cellsOf 22 = 1 := by kernel_rfl
theorem k31 : Tryz.prog.cellsOf 41 = 1 := by kernel_rfl
section
variable {H : Type} {enc : TypeId × Value → H} {w : World} {base : Nat} {held : Bool}
theorem cells_bytes {fuel : Nat} {v : Value} {x : DataW H × List MemPlace} (h : DataW.trod enc Tryz.prog w base (fun _ => true) held fuel 22 [v] = some x) : ∃ bs, IsB w v bs := by
  rcases open_ints Tryz.underlying22 Tryz.underlying5 (by kernel_rfl) h with ⟨hcs, _⟩ | ⟨a, l, c, zs, hcs, _, hl, hm, hz, _, hcell, hwz⟩
  · simp at hcs; subst hcs
    exact ⟨[], by simp, none, 0, rfl, .inl rfl⟩
  · simp at hcs; subst hcs
    have hz' : zs.length = c := by simpa using hz
    exact ⟨_, isB_mk hl hm hz' hwz (fun h => by cases h) (fun a' h i hi => by cases h; exact hcell i (by omega))⟩
theorem cells_ints {fuel : Nat} {v : Value} {x : DataW H × List MemPlace} (h : DataW.trod enc Tryz.prog w base (fun _ => true) held fuel 41 [v] = some x) : ∃ ks, IsI w v ks := by
  rcases open_ints Tryz.underlying41 Tryz.underlying3 (by kernel_rfl) h with ⟨hcs, _⟩ | ⟨a, l, c, zs, hcs, _, hl, hm, hz, _, hcell, hwz⟩
  · simp at hcs; subst hcs
    exact ⟨[], by simp, by simp, none, 0, rfl, by simp, by simp, .inl rfl⟩
  · simp at hcs; subst hcs
    have hz' : zs.length = c := by simpa using hz
    have hlen : (zs.take l).length = l := by simp; omega
    refine ⟨zs.take l, by omega, fun z hz => wf_i64 (hwz z (List.mem_of_mem_take hz)), some a, c, by rw [hlen], by omega, hm, ?_⟩
    by_cases h0 : l = 0
    · left; simp [h0]
    · right
      obtain ⟨b, off, spot⟩ := a
      have hc := hcell 0 (by omega)
      have hspot : spot = none := by simpa [Addr.add] using World.cell?_spot hc
      subst hspot
      refine ⟨b, off, rfl, fun i hi => ?_⟩
      rw [hlen] at hi
      have := hcell i (by omega)
      rw [Addr.add_lit] at this
      rw [this]
      simp [List.getD, List.getElem?_take_of_lt hi]
theorem str_of (s : ByteArray) : Value.string s = str s.data.toList := by
  unfold str
  cases s; simp
set_option maxRecDepth 100000 in
theorem cells_act {fuel : Nat} {cs : List Value} {x : DataW H × List MemPlace} (h : DataW.trod enc Tryz.prog w base (fun _ => true) held fuel 49 cs = some x) : ∃ y, IsAct w cs y := by
  obtain ⟨xs, n, _, _, hcl, hxl, hf⟩ := DataW.trod_struct Tryz.underlying49 h
  rw [cellsAct] at hcl
  match cs, hcl with
  | [c0, c1, c2, c3, c4, c5], _ =>
  have hx : ∀ i, i < 6 → ∃ y, xs[i]? = some y := fun i hi => ⟨_, List.getElem?_eq_getElem (by rw [hxl]; exact hi)⟩
  obtain ⟨y0, e0⟩ := hx 0 (by decide)
  obtain ⟨y1, e1⟩ := hx 1 (by decide)
  obtain ⟨y2, e2⟩ := hx 2 (by decide)
  obtain ⟨y3, e3⟩ := hx 3 (by decide)
  obtain ⟨y4, e4⟩ := hx 4 (by decide)
  obtain ⟨y5, e5⟩ := hx 5 (by decide)
  have f0 : DataW.trod enc Tryz.prog w base (fun _ => true) held n 5 [c0] = some y0 := by
    have h0 := hf 0 _ rfl
    rw [e0] at h0
    simpa [k5] using h0
  have f1 : DataW.trod enc Tryz.prog w base (fun _ => true) held n 9 [c1] = some y1 := by
    have h1 := hf 1 _ rfl
    rw [e1] at h1
    simpa [k9] using h1
  have f2 : DataW.trod enc Tryz.prog w base (fun _ => true) held n 9 [c2] = some y2 := by
    have h2 := hf 2 _ rfl
    rw [e2] at h2
    simpa [k9] using h2
  have f3 : DataW.trod enc Tryz.prog w base (fun _ => true) held n 22 [c3] = some y3 := by
    have h3 := hf 3 _ rfl
    rw [e3] at h3
    simpa [k30] using h3
  have f4 : DataW.trod enc Tryz.prog w base (fun _ => true) held n 3 [c4] = some y4 := by
    have h4 := hf 4 _ rfl
    rw [e4] at h4
    simpa [k3] using h4
  have f5 : DataW.trod enc Tryz.prog w base (fun _ => true) held n 41 [c5] = some y5 := by
    have h5 := hf 5 _ rfl
    rw [e5] at h5
    simpa [k31] using h5
  obtain ⟨a, q0, _, wa⟩ := DataW.trod_int Tryz.underlying5 f0
  obtain ⟨s1, q1, _, l1⟩ := DataW.trod_string Tryz.underlying9 f1
  obtain ⟨s2, q2, _, l2⟩ := DataW.trod_string Tryz.underlying9 f2
  obtain ⟨bs, hB⟩ := cells_bytes f3
  obtain ⟨z, q4, _, wz⟩ := DataW.trod_int Tryz.underlying3 f4
  obtain ⟨ks, hI⟩ := cells_ints f5
  simp only [List.cons.injEq, and_true] at q0 q1 q2 q4
  subst q0 q1 q2 q4
  have ha := wf_u8 wa
  refine ⟨⟨a.toNat, s1.data.toList, s2.data.toList, bs, z, ks⟩, ⟨by show a.toNat < 256; omega, by show s1.data.toList.length ≤ _; rw [Array.length_toList]; exact l1, by show s2.data.toList.length ≤ _; rw [Array.length_toList]; exact l2, wf_i64 wz⟩, c3, c5, ?_, hB, hI⟩
  rw [str_of s1, str_of s2, show ((a.toNat : Nat) : Int) = a by omega]
/-- a slice's value over calls. -/
def IsActs (w : World) (v : Value) (l : List ActD) : Prop :=
  l.length ≤ maxLen ∧ ∃ a c, v = .slice a l.length c ∧ (l = [] ∨ ∃ b off, a = some ⟨b, off, none⟩ ∧ ∀ i (hi : i < l.length), ∃ cs, IsAct w cs l[i] ∧ ∀ j, j < 6 → w.cell? ⟨b, off + i * 6 + j, none⟩ = cs[j]?)
set_option maxRecDepth 100000 in
theorem open_acts {r : Reach} {base0 : Nat} {v : Value} {d : DataW H} {p : List MemPlace} (hv : Value.okWide Tryz.prog w r base0 74 v) (h : DataW.Trod enc Tryz.prog w base (fun _ => true) held 74 v d p) : ∃ l, IsActs w v l := by
  obtain ⟨a, len, cap, rfl⟩ := okWide_slice Tryz.underlying74 hv
  obtain ⟨fuel, hf⟩ := h
  rcases Go.Deep.open_slice Tryz.underlying74 hf with ⟨hcs, _⟩ | ⟨x, l, c, m, n, D, Pl, hcs, _, hl, hm, hmm, _, hx⟩
  · simp [Value.cells] at hcs
    obtain ⟨rfl, rfl, rfl⟩ := hcs
    exact ⟨[], by simp, none, 0, rfl, .inl rfl⟩
  · simp [Value.cells] at hcs
    obtain ⟨rfl, rfl, rfl⟩ := hcs
    have hm' : m = cap := by simpa using hmm
    rw [cellsAct] at hx
    have hall : ∀ i, i < len → ∃ y cs, IsAct w cs y ∧ w.cells? base (x.add (i * 6)) 6 = some cs := fun i hi => by
      obtain ⟨cs', h1, h2⟩ := hx i (by omega)
      obtain ⟨y, hy⟩ := cells_act h2
      exact ⟨y, cs', hy, h1⟩
    have hch : ∃ Y : Nat → ActD, ∀ i, i < len → ∃ cs, IsAct w cs (Y i) ∧ w.cells? base (x.add (i * 6)) 6 = some cs := by
      refine ⟨fun i => if hi : i < len then Classical.choose (hall i hi) else ⟨0, [], [], [], 0, []⟩, fun i hi => ?_⟩
      simp only [hi, dif_pos]
      exact Classical.choose_spec (hall i hi)
    obtain ⟨Y, hY⟩ := hch
    have hlen : ((List.range len).map Y).length = len := by simp
    refine ⟨(List.range len).map Y, by omega, some x, cap, by rw [hlen], ?_⟩
    by_cases h0 : len = 0
    · left; simp [h0]
    · right
      obtain ⟨b, off, spot⟩ := x
      have hsp : spot = none := by
        obtain ⟨cs, _, h1⟩ := hY 0 (by omega)
        have h2 := (World.cells?_some h1).2.2 0 (by decide)
        obtain ⟨u, hu⟩ : ∃ u, w.cell? ((Addr.add ⟨b, off, spot⟩ (0 * 6)).add 0) = some u := by
          rw [h2]
          exact ⟨_, List.getElem?_eq_getElem (by have := (World.cells?_some h1).2.1; omega)⟩
        simpa [Addr.add] using World.cell?_spot hu
      subst hsp
      refine ⟨b, off, rfl, fun i hi => ?_⟩
      obtain ⟨cs, h1, h2⟩ := hY i (by omega)
      refine ⟨cs, by simpa using h1, fun j hj => ?_⟩
      have h3 := (World.cells?_some h2).2.2 j hj
      rw [Addr.add_lit, Addr.add_lit] at h3
      exact h3
set_option maxRecDepth 100000 in
theorem open_act {r : Reach} {base0 : Nat} {v : Value} {d : DataW H} {p : List MemPlace} (hv : Value.okWide Tryz.prog w r base0 49 v) (h : DataW.Trod enc Tryz.prog w base (fun _ => true) held 49 v d p) :
    ∃ (x : ActD) (va : Option Addr) (vc : Nat) (ka : Option Addr) (kc : Nat), v = .agg #[.int .u8 (x.kind : Int), str x.name, str x.other, .slice va x.b.length vc, .int .i64 x.n, .slice ka x.keep.length kc] ∧ ActOk x ∧ IsB w (.slice va x.b.length vc) x.b ∧ IsI w (.slice ka x.keep.length kc) x.keep := by
  obtain ⟨cs, rfl, _⟩ := okWide_struct Tryz.underlying49 hv
  obtain ⟨fuel, hf⟩ := h
  obtain ⟨x, hok, vb, vk, hcs, hB, hI⟩ := cells_act hf
  obtain ⟨va, vc, rfl⟩ : ∃ a c, vb = .slice a x.b.length c := by obtain ⟨_, a, c, e, _⟩ := hB; exact ⟨a, c, e⟩
  obtain ⟨ka, kc, rfl⟩ : ∃ a c, vk = .slice a x.keep.length c := by obtain ⟨_, _, a, c, e, _⟩ := hI; exact ⟨a, c, e⟩
  refine ⟨x, va, vc, ka, kc, ?_, hok, hB, hI⟩
  obtain ⟨l⟩ := cs
  have : l = _ := hcs
  rw [this]
set_option maxRecDepth 100000 in
theorem open_ks {r : Reach} {base0 : Nat} {v : Value} {d : DataW H} {p : List MemPlace} (hv : Value.okWide Tryz.prog w r base0 41 v) (h : DataW.Trod enc Tryz.prog w base (fun _ => true) held 41 v d p) : ∃ ks, IsI w v ks := by
  obtain ⟨a, len, cap, rfl⟩ := okWide_slice Tryz.underlying41 hv
  obtain ⟨fuel, hf⟩ := h
  exact cells_ints hf
end
end Go.Proofs.YtihgikekkgoddaaGreatDoor.Sto
