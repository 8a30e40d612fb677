/- Joined: SOpen SOpen2 SGreat. -/
import Derived.Test.YtihgikekkgoddaaGreatDoorZSe
import Derived.ProofKit
import Derived.OpenShut
import Derived.ShutString
import Derived.ChangeOld
import Derived.Deep.Matrix
import Derived.SizedLaws
import Derived.Deep.Slices
import Derived.Deep.QuietTactic
import Derived.BigQuiet
/- What the frame tells of arguments: a slice of bytes, a slice of such slices. -/
namespace Go.Proofs.YtihgikekkgoddaaGreatDoor.Sto
open Go.ChangeShapes Go.WideShapes Go.ChangeAt Go.RowKit

theorem wf_u8 {z : Int} (h : (Lit.int .u8 z).wf = true) : 0 ≤ z ∧ z < 256 := by
  simp [Lit.wf, IntKind.min, IntKind.max, IntKind.bits, IntKind.signed] at h
  omega
def bytesOf (zs : List Int) : List UInt8 := zs.map fun z => UInt8.ofNat z.toNat
theorem bytesOf_bv {zs : List Int} (h : ∀ z ∈ zs, (Lit.int .u8 z).wf = true) : (bytesOf zs).map bv = zs.map (Value.int .u8) := by
  unfold bytesOf
  rw [List.map_map]
  apply List.map_congr_left
  intro z hz
  have := wf_u8 (h z hz)
  show bv (UInt8.ofNat z.toNat) = _
  unfold bv
  rw [UInt8.toNat_ofNat_of_lt' (by show z.toNat < 256; omega)]
  congr 1; omega
theorem isB_mk {w : World} {a : Option Addr} {len cap : Nat} {zs : List Int} (h1 : len ≤ cap) (h2 : cap ≤ maxLen) (h3 : zs.length = cap) (h4 : ∀ n ∈ zs, (Lit.int .u8 n).wf = true) (h5 : a = none → cap = 0)
    (h6 : ∀ a', a = some a' → ∀ c, c < cap → w.cell? (a'.add c) = some (.int .u8 (zs.getD c 0))) : IsB w (.slice a len cap) (bytesOf (zs.take len)) := by
  have hl : (bytesOf (zs.take len)).length = len := by simp [bytesOf]; omega
  refine ⟨by omega, a, cap, by rw [hl], ?_⟩
  by_cases h0 : len = 0
  · left; simp [h0, bytesOf]
  · right
    cases a with
    | none => have := h5 rfl; omega
    | some x =>
      obtain ⟨b, off, spot⟩ := x
      have hc := h6 _ rfl 0 (by omega)
      have hspot : spot = none := by simpa [Addr.add] using World.cell?_spot hc
      subst hspot
      refine ⟨b, off, rfl, fun i hi => ?_⟩
      rw [hl] at hi
      have := h6 _ rfl i (by omega)
      rw [Addr.add_lit] at this
      rw [this, bytesOf_bv (fun z hz => h4 z (List.mem_of_mem_take hz))]
      have hi2 : i < zs.length := by omega
      simp [List.getD, List.getElem?_take_of_lt hi, hi2]
/-- a slice's value over a row of slices of bytes. -/
def IsP (w : World) (v : Value) (l : List (List UInt8)) : Prop :=
  l.length ≤ maxLen ∧ ∃ a c, v = .slice a l.length c ∧ (l = [] ∨ ∃ b off, a = some ⟨b, off, none⟩ ∧ ∀ i, i < l.length → ∃ u, w.cell? ⟨b, off + i, none⟩ = some u ∧ IsB w u (l.getD i []))
theorem IsP.below {w w' : World} {v : Value} {l : List (List UInt8)} (h : IsP w v l) (hb : Below w.heap.size w w') : IsP w' v l := by
  obtain ⟨h1, a, c, hv, h2⟩ := h
  refine ⟨h1, a, c, hv, ?_⟩
  rcases h2 with h2 | ⟨b, off, ha, h2⟩
  · exact .inl h2
  · refine .inr ⟨b, off, ha, fun i hi => ?_⟩
    obtain ⟨u, hu, hB⟩ := h2 i hi
    exact ⟨u, (hb.cell (p := ⟨b, off + i, none⟩) (World.block_lt_of_cell? w ⟨b, off + i, none⟩ hu)).trans hu, hB.below hb⟩
section
variable {H : Type} {enc : TypeId × Value → H} {P : Program} {w : World} {base0 base : Nat} {held : Bool}
theorem open_bytes {t e : TypeId} {r : Reach} {v : Value} {d : DataW H} {p : List MemPlace} (ht : P.underlying t = some (.slice e)) (he : P.underlying e = some (.int .u8)) (ce : P.cellsOf e = 1)
    (hv : Value.okWide P w r base0 t v) (h : DataW.Trod enc P w base (fun _ => true) held t v d p) : ∃ bs, IsB w v bs := by
  obtain ⟨a, len, cap, rfl⟩ := okWide_slice ht hv
  obtain ⟨fuel, hf⟩ := h
  rcases open_ints ht he ce hf with ⟨hcs, _⟩ | ⟨x, l, c, zs, hcs, _, hl, hm, hz, _, hcell, hwz⟩
  · simp [Value.cells] at hcs
    obtain ⟨rfl, rfl, rfl⟩ := hcs
    exact ⟨[], by simp, none, 0, rfl, .inl rfl⟩
  · simp [Value.cells] at hcs
    obtain ⟨rfl, rfl, rfl⟩ := hcs
    have hz' : zs.length = cap := by simpa using hz
    exact ⟨_, isB_mk hl hm hz' hwz (fun h => by cases h) (fun a' h c hc => by cases h; exact hcell c (by omega))⟩
theorem open_pieces2 {t e q : TypeId} {r : Reach} {v : Value} {d : DataW H} {p : List MemPlace} (ht : P.underlying t = some (.slice e)) (he : P.underlying e = some (.slice q)) (hq : P.underlying q = some (.int .u8)) (ce : P.cellsOf e = 1) (cq : P.cellsOf q = 1) (_ : P.bytesOf q = 1)
    (hv : Value.okWide P w r base0 t v) (h : DataW.Trod enc P w base (fun _ => true) held t v d p) (_ : ∀ n ∈ d.weights P t, n ≤ reachBytes) : ∃ l, IsP w v l ∧ True := by
  obtain ⟨a, len, cap, rfl⟩ := okWide_slice ht hv
  obtain ⟨fuel, hf⟩ := h
  rcases Go.Deep.open_int_rows ht he hq ce cq hf with ⟨hcs, _⟩ | ⟨x, l, c, A, L, C, Z, hcs, _, hl, hm, _, hx⟩
  · simp [Value.cells] at hcs
    obtain ⟨rfl, rfl, rfl⟩ := hcs
    exact ⟨[], ⟨by simp, none, 0, rfl, .inl rfl⟩, trivial⟩
  · simp [Value.cells] at hcs
    obtain ⟨rfl, rfl, rfl⟩ := hcs
    refine ⟨(List.range len).map fun r => bytesOf ((Z r).take (L r)), ⟨by simp; omega, some x, cap, by simp, ?_⟩, trivial⟩
    by_cases h0 : len = 0
    · left; simp [h0]
    · right
      obtain ⟨b, off, spot⟩ := x
      have hc := (hx 0 (by omega)).1
      have hspot : spot = none := by simpa [Addr.add] using World.cell?_spot hc
      subst hspot
      refine ⟨b, off, rfl, fun i hi => ?_⟩
      simp at hi
      obtain ⟨e1, e2, e3, e4, e5, e6, e7⟩ := hx i (by omega)
      rw [Addr.add_lit] at e1
      refine ⟨_, e1, ?_⟩
      have : ((List.range len).map fun r => bytesOf ((Z r).take (L r))).getD i [] = bytesOf ((Z i).take (L i)) := by
        simp [List.getD, List.getElem?_map, List.getElem?_range hi]
      rw [this]
      exact isB_mk e2 e3 e4 e5 e6 (fun a' ha c hc => (e7 a' ha).2 c hc)
end
end Go.Proofs.YtihgikekkgoddaaGreatDoor.Sto
/- What the frame tells of a call that is laid down (Act): its six fields; of a slice of such; of a slice of numbers. -/
namespace Go.Proofs.YtihgikekkgoddaaGreatDoor.Sto
open Go.ChangeShapes Go.WideShapes Go.ChangeAt Go.RowKit

/-- a call. -/
structure ActD where
  kind : Nat
  name : List UInt8
  other : List UInt8
  b : List UInt8
  n : Int
  keep : List Int
structure ActOk (x : ActD) : Prop where
  kind : x.kind < 256
  name : x.name.length ≤ maxLen
  other : x.other.length ≤ maxLen
  n : -9223372036854775808 ≤ x.n ∧ x.n ≤ 9223372036854775807
/-- six cells that are a call. -/
def IsAct (w : World) (cs : List Value) (x : ActD) : Prop :=
  ActOk x ∧ ∃ vb vk, cs = [.int .u8 (x.kind : Int), str x.name, str x.other, vb, .int .i64 x.n, vk] ∧ IsB w vb x.b ∧ IsI w vk x.keep
theorem IsI.below {w w' : World} {v : Value} {ks : List Int} (h : IsI w v ks) (hb : Below w.heap.size w w') : IsI w' v ks := h.kept fun _ b _ hl => hb.block b hl
theorem IsAct.below {w w' : World} {cs : List Value} {x : ActD} (h : IsAct w cs x) (hb : Below w.heap.size w w') : IsAct w' cs x := by
  obtain ⟨h1, vb, vk, h2, h3, h4⟩ := h
  exact ⟨h1, vb, vk, h2, h3.below hb, h4.below hb⟩
theorem wf_i64 {z : Int} (h : (Lit.int .i64 z).wf = true) : -9223372036854775808 ≤ z ∧ z ≤ 9223372036854775807 := by
  simp [Lit.wf, IntKind.min, IntKind.max, IntKind.bits, IntKind.signed] at h
  omega
theorem cellsAct : Tryz.prog.cellsOf 49 = 6 := by kernel_rfl
theorem k3 : Tryz.prog.cellsOf 3 = 1 := by kernel_rfl
theorem k5 : Tryz.prog.cellsOf 5 = 1 := by kernel_rfl
theorem k9 : Tryz.prog.cellsOf 9 = 1 := by kernel_rfl
theorem k30 : Tryz.prog.cellsOf 22 = 1 := by kernel_rfl
theorem k31 : Tryz.prog.cellsOf 41 = 1 := by kernel_rfl
section
variable {H : Type} {enc : TypeId × Value → H} {w : World} {base : Nat} {held : Bool}
theorem cells_bytes {fuel : Nat} {v : Value} {x : DataW H × List MemPlace} (h : DataW.trod enc Tryz.prog w base (fun _ => true) held fuel 22 [v] = some x) : ∃ bs, IsB w v bs := by
  rcases open_ints Tryz.underlying22 Tryz.underlying5 (by kernel_rfl) h with ⟨hcs, _⟩ | ⟨a, l, c, zs, hcs, _, hl, hm, hz, _, hcell, hwz⟩
  · simp at hcs; subst hcs
    exact ⟨[], by simp, none, 0, rfl, .inl rfl⟩
  · simp at hcs; subst hcs
    have hz' : zs.length = c := by simpa using hz
    exact ⟨_, isB_mk hl hm hz' hwz (fun h => by cases h) (fun a' h i hi => by cases h; exact hcell i (by omega))⟩
theorem cells_ints {fuel : Nat} {v : Value} {x : DataW H × List MemPlace} (h : DataW.trod enc Tryz.prog w base (fun _ => true) held fuel 41 [v] = some x) : ∃ ks, IsI w v ks := by
  rcases open_ints Tryz.underlying41 Tryz.underlying3 (by kernel_rfl) h with ⟨hcs, _⟩ | ⟨a, l, c, zs, hcs, _, hl, hm, hz, _, hcell, hwz⟩
  · simp at hcs; subst hcs
    exact ⟨[], by simp, by simp, none, 0, rfl, by simp, by simp, .inl rfl⟩
  · simp at hcs; subst hcs
    have hz' : zs.length = c := by simpa using hz
    have hlen : (zs.take l).length = l := by simp; omega
    refine ⟨zs.take l, by omega, fun z hz => wf_i64 (hwz z (List.mem_of_mem_take hz)), some a, c, by rw [hlen], by omega, hm, ?_⟩
    by_cases h0 : l = 0
    · left; simp [h0]
    · right
      obtain ⟨b, off, spot⟩ := a
      have hc := hcell 0 (by omega)
      have hspot : spot = none := by simpa [Addr.add] using World.cell?_spot hc
      subst hspot
      refine ⟨b, off, rfl, fun i hi => ?_⟩
      rw [hlen] at hi
      have := hcell i (by omega)
      rw [Addr.add_lit] at this
      rw [this]
      simp [List.getD, List.getElem?_take_of_lt hi]
theorem str_of (s : ByteArray) : Value.string s = str s.data.toList := by
  unfold str
  cases s; simp
set_option maxRecDepth 100000 in
theorem cells_act {fuel : Nat} {cs : List Value} {x : DataW H × List MemPlace} (h : DataW.trod enc Tryz.prog w base (fun _ => true) held fuel 49 cs = some x) : ∃ y, IsAct w cs y := by
  obtain ⟨xs, n, _, _, hcl, hxl, hf⟩ := DataW.trod_struct Tryz.underlying49 h
  rw [cellsAct] at hcl
  match cs, hcl with
  | [c0, c1, c2, c3, c4, c5], _ =>
  have hx : ∀ i, i < 6 → ∃ y, xs[i]? = some y := fun i hi => ⟨_, List.getElem?_eq_getElem (by rw [hxl]; exact hi)⟩
  obtain ⟨y0, e0⟩ := hx 0 (by decide)
  obtain ⟨y1, e1⟩ := hx 1 (by decide)
  obtain ⟨y2, e2⟩ := hx 2 (by decide)
  obtain ⟨y3, e3⟩ := hx 3 (by decide)
  obtain ⟨y4, e4⟩ := hx 4 (by decide)
  obtain ⟨y5, e5⟩ := hx 5 (by decide)
  have f0 : DataW.trod enc Tryz.prog w base (fun _ => true) held n 5 [c0] = some y0 := by
    have h0 := hf 0 _ rfl
    rw [e0] at h0
    simpa [k5] using h0
  have f1 : DataW.trod enc Tryz.prog w base (fun _ => true) held n 9 [c1] = some y1 := by
    have h1 := hf 1 _ rfl
    rw [e1] at h1
    simpa [k9] using h1
  have f2 : DataW.trod enc Tryz.prog w base (fun _ => true) held n 9 [c2] = some y2 := by
    have h2 := hf 2 _ rfl
    rw [e2] at h2
    simpa [k9] using h2
  have f3 : DataW.trod enc Tryz.prog w base (fun _ => true) held n 22 [c3] = some y3 := by
    have h3 := hf 3 _ rfl
    rw [e3] at h3
    simpa [k30] using h3
  have f4 : DataW.trod enc Tryz.prog w base (fun _ => true) held n 3 [c4] = some y4 := by
    have h4 := hf 4 _ rfl
    rw [e4] at h4
    simpa [k3] using h4
  have f5 : DataW.trod enc Tryz.prog w base (fun _ => true) held n 41 [c5] = some y5 := by
    have h5 := hf 5 _ rfl
    rw [e5] at h5
    simpa [k31] using h5
  obtain ⟨a, q0, _, wa⟩ := DataW.trod_int Tryz.underlying5 f0
  obtain ⟨s1, q1, _, l1⟩ := DataW.trod_string Tryz.underlying9 f1
  obtain ⟨s2, q2, _, l2⟩ := DataW.trod_string Tryz.underlying9 f2
  obtain ⟨bs, hB⟩ := cells_bytes f3
  obtain ⟨z, q4, _, wz⟩ := DataW.trod_int Tryz.underlying3 f4
  obtain ⟨ks, hI⟩ := cells_ints f5
  simp only [List.cons.injEq, and_true] at q0 q1 q2 q4
  subst q0 q1 q2 q4
  have ha := wf_u8 wa
  refine ⟨⟨a.toNat, s1.data.toList, s2.data.toList, bs, z, ks⟩, ⟨by show a.toNat < 256; omega, by show s1.data.toList.length ≤ _; rw [Array.length_toList]; exact l1, by show s2.data.toList.length ≤ _; rw [Array.length_toList]; exact l2, wf_i64 wz⟩, c3, c5, ?_, hB, hI⟩
  rw [str_of s1, str_of s2, show ((a.toNat : Nat) : Int) = a by omega]
/-- a slice's value over calls. -/
def IsActs (w : World) (v : Value) (l : List ActD) : Prop :=
  l.length ≤ maxLen ∧ ∃ a c, v = .slice a l.length c ∧ (l = [] ∨ ∃ b off, a = some ⟨b, off, none⟩ ∧ ∀ i (hi : i < l.length), ∃ cs, IsAct w cs l[i] ∧ ∀ j, j < 6 → w.cell? ⟨b, off + i * 6 + j, none⟩ = cs[j]?)
set_option maxRecDepth 100000 in
theorem open_acts {r : Reach} {base0 : Nat} {v : Value} {d : DataW H} {p : List MemPlace} (hv : Value.okWide Tryz.prog w r base0 74 v) (h : DataW.Trod enc Tryz.prog w base (fun _ => true) held 74 v d p) : ∃ l, IsActs w v l := by
  obtain ⟨a, len, cap, rfl⟩ := okWide_slice Tryz.underlying74 hv
  obtain ⟨fuel, hf⟩ := h
  rcases Go.Deep.open_slice Tryz.underlying74 hf with ⟨hcs, _⟩ | ⟨x, l, c, m, n, D, Pl, hcs, _, hl, hm, hmm, _, hx⟩
  · simp [Value.cells] at hcs
    obtain ⟨rfl, rfl, rfl⟩ := hcs
    exact ⟨[], by simp, none, 0, rfl, .inl rfl⟩
  · simp [Value.cells] at hcs
    obtain ⟨rfl, rfl, rfl⟩ := hcs
    have hm' : m = cap := by simpa using hmm
    rw [cellsAct] at hx
    have hall : ∀ i, i < len → ∃ y cs, IsAct w cs y ∧ w.cells? base (x.add (i * 6)) 6 = some cs := fun i hi => by
      obtain ⟨cs', h1, h2⟩ := hx i (by omega)
      obtain ⟨y, hy⟩ := cells_act h2
      exact ⟨y, cs', hy, h1⟩
    have hch : ∃ Y : Nat → ActD, ∀ i, i < len → ∃ cs, IsAct w cs (Y i) ∧ w.cells? base (x.add (i * 6)) 6 = some cs := by
      refine ⟨fun i => if hi : i < len then Classical.choose (hall i hi) else ⟨0, [], [], [], 0, []⟩, fun i hi => ?_⟩
      simp only [hi, dif_pos]
      exact Classical.choose_spec (hall i hi)
    obtain ⟨Y, hY⟩ := hch
    have hlen : ((List.range len).map Y).length = len := by simp
    refine ⟨(List.range len).map Y, by omega, some x, cap, by rw [hlen], ?_⟩
    by_cases h0 : len = 0
    · left; simp [h0]
    · right
      obtain ⟨b, off, spot⟩ := x
      have hsp : spot = none := by
        obtain ⟨cs, _, h1⟩ := hY 0 (by omega)
        have h2 := (World.cells?_some h1).2.2 0 (by decide)
        obtain ⟨u, hu⟩ : ∃ u, w.cell? ((Addr.add ⟨b, off, spot⟩ (0 * 6)).add 0) = some u := by
          rw [h2]
          exact ⟨_, List.getElem?_eq_getElem (by have := (World.cells?_some h1).2.1; omega)⟩
        simpa [Addr.add] using World.cell?_spot hu
      subst hsp
      refine ⟨b, off, rfl, fun i hi => ?_⟩
      obtain ⟨cs, h1, h2⟩ := hY i (by omega)
      refine ⟨cs, by simpa using h1, fun j hj => ?_⟩
      have h3 := (World.cells?_some h2).2.2 j hj
      rw [Addr.add_lit, Addr.add_lit] at h3
      exact h3
set_option maxRecDepth 100000 in
theorem open_act {r : Reach} {base0 : Nat} {v : Value} {d : DataW H} {p : List MemPlace} (hv : Value.okWide Tryz.prog w r base0 49 v) (h : DataW.Trod enc Tryz.prog w base (fun _ => true) held 49 v d p) :
    ∃ (x : ActD) (va : Option Addr) (vc : Nat) (ka : Option Addr) (kc : Nat), v = .agg #[.int .u8 (x.kind : Int), str x.name, str x.other, .slice va x.b.length vc, .int .i64 x.n, .slice ka x.keep.length kc] ∧ ActOk x ∧ IsB w (.slice va x.b.length vc) x.b ∧ IsI w (.slice ka x.keep.length kc) x.keep := by
  obtain ⟨cs, rfl, _⟩ := okWide_struct Tryz.underlying49 hv
  obtain ⟨fuel, hf⟩ := h
  obtain ⟨x, hok, vb, vk, hcs, hB, hI⟩ := cells_act hf
  obtain ⟨va, vc, rfl⟩ : ∃ a c, vb = .slice a x.b.length c := by obtain ⟨_, a, c, e, _⟩ := hB; exact ⟨a, c, e⟩
  obtain ⟨ka, kc, rfl⟩ : ∃ a c, vk = .slice a x.keep.length c := by obtain ⟨_, _, a, c, e, _⟩ := hI; exact ⟨a, c, e⟩
  refine ⟨x, va, vc, ka, kc, ?_, hok, hB, hI⟩
  obtain ⟨l⟩ := cs
  have : l = _ := hcs
  rw [this]
set_option maxRecDepth 100000 in
theorem open_ks {r : Reach} {base0 : Nat} {v : Value} {d : DataW H} {p : List MemPlace} (hv : Value.okWide Tryz.prog w r base0 41 v) (h : DataW.Trod enc Tryz.prog w base (fun _ => true) held 41 v d p) : ∃ ks, IsI w v ks := by
  obtain ⟨a, len, cap, rfl⟩ := okWide_slice Tryz.underlying41 hv
  obtain ⟨fuel, hf⟩ := h
  exact cells_ints hf
end
end Go.Proofs.YtihgikekkgoddaaGreatDoor.Sto
/- Contract of Great: false only of at most 100 calls with at most 30,000 bytes. -/
namespace Go.Proofs.YtihgikekkgoddaaGreatDoor.Sto
open Go.RowKit Go.Maps Go.MapKept Go.Shelf

def wt (x : ActD) : Nat := x.b.length + x.name.length + x.other.length
def sumw (l : List ActD) (k : Nat) : Nat := ((l.take k).map wt).sum
theorem sumw_succ (l : List ActD) (k : Nat) (hk : k < l.length) : sumw l (k + 1) = sumw l k + wt l[k] := by
  unfold sumw
  rw [List.take_succ_eq_append_getElem hk, List.map_append, List.sum_append]
  congr 1
/-- not too many calls, not too many bytes. -/
def Fit (l : List ActD) : Prop := l.length ≤ 100 ∧ sumw l l.length ≤ 30000
theorem IsActs.at {w : World} {a : Option Addr} {n c : Nat} {l : List ActD} (h : IsActs w (.slice a n c) l) (k : Nat) (hk : k < l.length) : ∃ b off vb vk, a = some ⟨b, off, none⟩ ∧ ActOk l[k] ∧ IsB w vb l[k].b ∧ IsI w vk l[k].keep ∧
    w.cell? ⟨b, off + k * 6, none⟩ = some (.int .u8 (l[k].kind : Int)) ∧ w.cell? ⟨b, off + k * 6 + 1, none⟩ = some (str l[k].name) ∧ w.cell? ⟨b, off + k * 6 + 2, none⟩ = some (str l[k].other) ∧ w.cell? ⟨b, off + k * 6 + 3, none⟩ = some vb ∧ w.cell? ⟨b, off + k * 6 + 4, none⟩ = some (.int .i64 l[k].n) ∧ w.cell? ⟨b, off + k * 6 + 5, none⟩ = some vk := by
  obtain ⟨_, a', c', e, h2⟩ := h
  cases e
  rcases h2 with h2 | ⟨b, off, ha, h2⟩
  · subst h2; cases hk
  · obtain ⟨cs, ⟨h3, vb, vk, rfl, h4, h5⟩, h6⟩ := h2 k hk
    exact ⟨b, off, vb, vk, ha, h3, h4, h5, h6 0 (by decide), h6 1 (by decide), h6 2 (by decide), h6 3 (by decide), h6 4 (by decide), h6 5 (by decide)⟩
def GreatPost (l : List ActD) (w : World) (e : Ending) (w' : World) : Prop := ∃ r : Bool, e = .returned (.bool r) ∧ (r = false → Fit l) ∧ ∃ q, w' = w.drewN q
set_option maxHeartbeats 4000000 in
theorem great_any (v : Value) (l : List ActD) (w : World) (h : IsActs w v l) :
    Calls Tryz.prog 43 #[v] w (GreatPost l w) := by
  have hml := h.1
  unfold maxLen at hml
  obtain ⟨av, cv, hv⟩ : ∃ a c, v = .slice a l.length c := by obtain ⟨_, a, c, e, _⟩ := h; exact ⟨a, c, e⟩
  rw [hv] at h ⊢
  replace h := hid h
  clear hv
  by_cases h100 : 100 < l.length
  · have h100' : (100 : Int) < (l.length : Int) := by omega
    go_enter Tryz.func43, Tryz.ntmps43
    go_wp2
    go_ret
    exact ⟨true, rfl, (fun e => by cases e), 0, rfl⟩
  have h100' : ¬ (100 : Int) < (l.length : Int) := by omega
  go_enter Tryz.func43, Tryz.ntmps43
  go_wp2
  go_loopw [3, 4] (fun nv iv wr => ∃ (k q : Nat), k ≤ l.length ∧ iv = .int .i64 k ∧ nv = .int .i64 (sumw l k) ∧ sumw l k ≤ 90000 * k ∧ wr = w.drewN q) (fun _ iv _ => l.length - (intOf iv).toNat)
  case atStart => exact ⟨0, 0, by omega, rfl, rfl, by simp [sumw], rfl⟩
  case round =>
    obtain ⟨k, q, hk, rfl, rfl, hs, rfl⟩ := hrel
    by_cases hlt : k < l.length
    · have hlt' : (k : Int) < (l.length : Int) := by omega
      obtain ⟨b, off, vb, vk, rfl, hok, hB, hI, c0, c1, c2, c3, c4, c5⟩ := h.out.at k hlt
      obtain ⟨hbl, va, vc, rfl, _⟩ := hB
      unfold maxLen at hbl
      have n1 := hok.name
      have n2 := hok.other
      unfold maxLen at n1 n2
      have hsu := hid (sumw_succ l k hlt)
      have hs1 : (⟨l[k].name.toArray⟩ : ByteArray).size = l[k].name.length := by show l[k].name.toArray.size = _; simp
      have hs2 : (⟨l[k].other.toArray⟩ : ByteArray).size = l[k].other.length := by show l[k].other.toArray.size = _; simp
      have hwt : Hid (wt l[k] = l[k].b.length + l[k].name.length + l[k].other.length) := rfl
      unfold str at c1 c2
      clear c0 c4 c5 hok hI
      generalize l[k] = x at *
      generalize sumw l k = m at *
      by_cases t1 : 30000 < x.b.length
      · have t1' : (30000 : Int) < (x.b.length : Int) := by omega
        go_wp2
        go_ret
        exact ⟨true, rfl, (fun e => by cases e), q, rfl⟩
      · have t1' : ¬ (30000 : Int) < (x.b.length : Int) := by omega
        by_cases t2 : 30000 < x.name.length
        · have t2' : (30000 : Int) < (x.name.length : Int) := by omega
          go_wp2
          go_ret
          exact ⟨true, rfl, (fun e => by cases e), q, rfl⟩
        · have t2' : ¬ (30000 : Int) < (x.name.length : Int) := by omega
          by_cases t3 : 30000 < x.other.length
          · have t3' : (30000 : Int) < (x.other.length : Int) := by omega
            go_wp2
            go_ret
            exact ⟨true, rfl, (fun e => by cases e), q, rfl⟩
          · have t3' : ¬ (30000 : Int) < (x.other.length : Int) := by omega
            go_wp2
            go_quiet (fail)
            go_wp2
            refine ⟨⟨k + 1, _, by omega, by go_num, by rw [hsu.out, hwt.out]; go_num, by rw [hsu.out, hwt.out]; omega, rfl⟩, by simp [intOf]; omega⟩
    · have hge : ¬ (k : Int) < (l.length : Int) := by omega
      obtain rfl : k = l.length := by omega
      have fin : Hid (∀ r : Bool, r = decide ((30000 : Int) < (sumw l l.length : Int)) → r = false → Fit l) := fun r hr e => by
        rw [e] at hr
        have := of_decide_eq_false hr.symm
        exact ⟨by omega, by omega⟩
      generalize sumw l l.length = m at *
      go_wp2
      go_ret
      exact ⟨_, rfl, fin.out _ rfl, q, rfl⟩
end Go.Proofs.YtihgikekkgoddaaGreatDoor.Sto
