/- What the frame tells of arguments: a slice of bytes, a slice of such slices. -/
import Derived.Test.YtihgikekkgoddaaGreatDoorZSe
import Derived.ProofKit
import Derived.OpenShut
import Derived.ShutString
import Derived.ChangeOld
import Derived.Deep.Matrix
import Derived.SizedLaws
namespace Go.Proofs.YtihgikekkgoddaaGreatDoor.Sto
open Go.ChangeShapes Go.WideShapes Go.ChangeAt Go.RowKit

theorem wf_u8 {z : Int} (h : (Lit.int .u8 z).wf = true) : 0 ≤ z ∧ z < 256 := by
  simp [Lit.wf, IntKind.min, IntKind.max, IntKind.bits, IntKind.signed] at h
  omega
def bytesOf (zs : List Int) : List UInt8 := zs.map fun z => UInt8.ofNat z.toNat
theorem bytesOf_bv {zs : List Int} (h : ∀ z ∈ zs, (Lit.int .u8 z).wf = true) : (bytesOf zs).map bv = zs.map (Value.int .u8) := by
  unfold bytesOf
  rw [List.map_map]
  apply List.map_congr_left
  intro z hz
  have := wf_u8 (h z hz)
  show bv (UInt8.ofNat z.toNat) = _
  unfold bv
  rw [UInt8.toNat_ofNat_of_lt' (by show z.toNat < 256; omega)]
  congr 1; omega
theorem isB_mk {w : World} {a : Option Addr} {len cap : Nat} {zs : List Int} (h1 : len ≤ cap) (h2 : cap ≤ maxLen) (h3 : zs.length = cap) (h4 : ∀ n ∈ zs, (Lit.int .u8 n).wf = true) (h5 : a = none → cap = 0)
    (h6 : ∀ a', a = some a' → ∀ c, c < cap → w.cell? (a'.add c) = some (.int .u8 (zs.getD c 0))) : IsB w (.slice a len cap) (bytesOf (zs.take len)) := by
  have hl : (bytesOf (zs.take len)).length = len := by simp [bytesOf]; omega
  refine ⟨by omega, a, cap, by rw [hl], ?_⟩
  by_cases h0 : len = 0
  · left; simp [h0, bytesOf]
  · right
    cases a with
    | none => have := h5 rfl; omega
    | some x =>
      obtain ⟨b, off, spot⟩ := x
      have hc := h6 _ rfl 0 (by omega)
      have hspot : spot = none := by simpa [Addr.add] using World.cell?_spot hc
      subst hspot
      refine ⟨b, off, rfl, fun i hi => ?_⟩
      rw [hl] at hi
      have := h6 _ rfl i (by omega)
      rw [Addr.add_lit] at this
      rw [this, bytesOf_bv (fun z hz => h4 z (List.mem_of_mem_take hz))]
      have hi2 : i < zs.length := by omega
      simp [List.getD, List.getElem?_take_of_lt hi, hi2]
/-- a slice's value over a row of slices of bytes. -/
def IsP (w : World) (v : Value) (l : List (List UInt8)) : Prop :=
  l.length ≤ maxLen ∧ ∃ a c, v = .slice a l.length c ∧ (l = [] ∨ ∃ b off, a = some ⟨b, off, none⟩ ∧ ∀ i, i < l.length → ∃ u, w.cell? ⟨b, off + i, none⟩ = some u ∧ IsB w u (l.getD i []))
theorem IsP.below {w w' : World} {v : Value} {l : List (List UInt8)} (h : IsP w v l) (hb : Below w.heap.size w w') : IsP w' v l := by
  obtain ⟨h1, a, c, hv, h2⟩ := h
  refine ⟨h1, a, c, hv, ?_⟩
  rcases h2 with h2 | ⟨b, off, ha, h2⟩
  · exact .inl h2
  · refine .inr ⟨b, off, ha, fun i hi => ?_⟩
    obtain ⟨u, hu, hB⟩ := h2 i hi
    exact ⟨u, (hb.cell (p := ⟨b, off + i, none⟩) (World.block_lt_of_cell? w ⟨b, off + i, none⟩ hu)).trans hu, hB.below hb⟩
section
variable {H : Type} {enc : TypeId × Value → H} {P : Program} {w : World} {base0 base : Nat} {held : Bool}
theorem open_bytes {t e : TypeId} {r : Reach} {v : Value} {d : DataW H} {p : List MemPlace} (ht : P.underlying t = some (.slice e)) (he : P.underlying e = some (.int .u8)) (ce : P.cellsOf e = 1)
    (hv : Value.okWide P w r base0 t v) (h : DataW.Trod enc P w base (fun _ => true) held t v d p) : ∃ bs, IsB w v bs := by
  obtain ⟨a, len, cap, rfl⟩ := okWide_slice ht hv
  obtain ⟨fuel, hf⟩ := h
  rcases open_ints ht he ce hf with ⟨hcs, _⟩ | ⟨x, l, c, zs, hcs, _, hl, hm, hz, _, hcell, hwz⟩
  · simp [Value.cells] at hcs
    obtain ⟨rfl, rfl, rfl⟩ := hcs
    exact ⟨[], by simp, none, 0, rfl, .inl rfl⟩
  · simp [Value.cells] at hcs
    obtain ⟨rfl, rfl, rfl⟩ := hcs
    have hz' : zs.length = cap := by simpa using hz
    exact ⟨_, isB_mk hl hm hz' hwz (fun h => by cases h) (fun a' h c hc => by cases h; exact hcell c (by omega))⟩
theorem open_pieces2 {t e q : TypeId} {r : Reach} {v : Value} {d : DataW H} {p : List MemPlace} (ht : P.underlying t = some (.slice e)) (he : P.underlying e = some (.slice q)) (hq : P.underlying q = some (.int .u8)) (ce : P.cellsOf e = 1) (cq : P.cellsOf q = 1) (_ : P.bytesOf q = 1)
    (hv : Value.okWide P w r base0 t v) (h : DataW.Trod enc P w base (fun _ => true) held t v d p) (_ : ∀ n ∈ d.weights P t, n ≤ reachBytes) : ∃ l, IsP w v l ∧ True := by
  obtain ⟨a, len, cap, rfl⟩ := okWide_slice ht hv
  obtain ⟨fuel, hf⟩ := h
  rcases Go.Deep.open_int_rows ht he hq ce cq hf with ⟨hcs, _⟩ | ⟨x, l, c, A, L, C, Z, hcs, _, hl, hm, _, hx⟩
  · simp [Value.cells] at hcs
    obtain ⟨rfl, rfl, rfl⟩ := hcs
    exact ⟨[], ⟨by simp, none, 0, rfl, .inl rfl⟩, trivial⟩
  · simp [Value.cells] at hcs
    obtain ⟨rfl, rfl, rfl⟩ := hcs
    refine ⟨(List.range len).map fun r => bytesOf ((Z r).take (L r)), ⟨by simp; omega, some x, cap, by simp, ?_⟩, trivial⟩
    by_cases h0 : len = 0
    · left; simp [h0]
    · right
      obtain ⟨b, off, spot⟩ := x
      have hc := (hx 0 (by omega)).1
      have hspot : spot = none := by simpa [Addr.add] using World.cell?_spot hc
      subst hspot
      refine ⟨b, off, rfl, fun i hi => ?_⟩
      simp at hi
      obtain ⟨e1, e2, e3, e4, e5, e6, e7⟩ := hx i (by omega)
      rw [Addr.add_lit] at e1
      refine ⟨_, e1, ?_⟩
      have : ((List.range len).map fun r => bytesOf ((Z r).take (L r))).getD i [] = bytesOf ((Z i).take (L i)) := by
        simp [List.getD, List.getElem?_map, List.getElem?_range hi]
      rw [this]
      exact isB_mk e2 e3 e4 e5 e6 (fun a' ha c hc => (e7 a' ha).2 c hc)
end
end Go.Proofs.YtihgikekkgoddaaGreatDoor.Sto
