/- What the frame tells of arguments: a slice of bytes, a slice of such slices. -/
import Derived.Test.YtihgikekkgoddaaGreatDoorZLY
import Derived.ProofKit
import Derived.OpenShut
import Derived.ShutString
import Derived.ChangeOld
import Derived.Deep.Matrix
import Derived.SizedLaws
namespace Go.Proofs.YtihgikekkgoddaaGreatDoor
open Go.ChangeShapes Go.WideShapes Go.ChangeAt Go.RowKit

theorem wf_u8 {z : Int} (h : (Lit.int .u8 z).wf = true) : 0 ≤ z ∧ z < 256 := by
  simp [Lit.wf, IntKind.min, IntKind.max, IntKind.bits, IntKind.signed] at h
  omega
theorem isB_mk {w : World} {a : Option Addr} {len cap : Nat} {zs : List Int} (h1 : len ≤ cap) (h2 : cap ≤ maxLen) (h3 : zs.length = cap) (h4 : ∀ n ∈ zs, (Lit.int .u8 n).wf = true) (h5 : a = none → cap = 0)
    (h6 : ∀ a', a = some a' → ∀ c, c < cap → w.cell? (a'.add c) = some (.int .u8 (zs.getD c 0))) : Frm.IsB w (.slice a len cap) (ints (byts (zs.take len))) := by
  have hbyt : ∀ z ∈ zs.take len, 0 ≤ z ∧ z < 256 := fun z hz => wf_u8 (h4 z (List.mem_of_mem_take hz))
  rw [ints_byts hbyt]
  have hl : (zs.take len).length = len := by rw [List.length_take]; omega
  refine ⟨by omega, hbyt, a, cap, by rw [hl], by omega, h2, ?_⟩
  by_cases h0 : len = 0
  · left; simp [h0]
  · right
    cases a with
    | none => have := h5 rfl; omega
    | some x =>
      obtain ⟨b, off, spot⟩ := x
      have hc := h6 _ rfl 0 (by omega)
      have hspot : spot = none := by simpa [Addr.add] using World.cell?_spot hc
      subst hspot
      refine ⟨b, off, rfl, fun i hi => ?_⟩
      rw [hl] at hi
      have := h6 _ rfl i (by omega)
      rw [Addr.add_lit] at this
      rw [this]
      simp [List.getD, List.getElem?_take_of_lt hi]
section
variable {H : Type} {enc : TypeId × Value → H} {P : Program} {w : World} {base0 base : Nat} {held : Bool}
theorem open_byts {t e : TypeId} {r : Reach} {v : Value} {d : DataW H} {p : List MemPlace} (ht : P.underlying t = some (.slice e)) (he : P.underlying e = some (.int .u8)) (ce : P.cellsOf e = 1)
    (hv : Value.okWide P w r base0 t v) (h : DataW.Trod enc P w base (fun _ => true) held t v d p) : ∃ bs, Frm.IsB w v (ints bs) := by
  obtain ⟨a, len, cap, rfl⟩ := okWide_slice ht hv
  obtain ⟨fuel, hf⟩ := h
  rcases open_ints ht he ce hf with ⟨hcs, _⟩ | ⟨x, l, c, zs, hcs, _, hl, hm, hz, _, hcell, hwz⟩
  · simp [Value.cells] at hcs
    obtain ⟨rfl, rfl, rfl⟩ := hcs
    exact ⟨[], by simp [ints], by simp [ints], none, 0, rfl, by simp [ints], by simp, .inl rfl⟩
  · simp [Value.cells] at hcs
    obtain ⟨rfl, rfl, rfl⟩ := hcs
    have hz' : zs.length = cap := by simpa using hz
    exact ⟨_, isB_mk hl hm hz' hwz (fun h => by cases h) (fun a' h c hc => by cases h; exact hcell c (by omega))⟩
theorem open_recs {t e q : TypeId} {r : Reach} {v : Value} {d : DataW H} {p : List MemPlace} (ht : P.underlying t = some (.slice e)) (he : P.underlying e = some (.slice q)) (hq : P.underlying q = some (.int .u8)) (ce : P.cellsOf e = 1) (cq : P.cellsOf q = 1)
    (hv : Value.okWide P w r base0 t v) (h : DataW.Trod enc P w base (fun _ => true) held t v d p) : ∃ l, IsR w v l := by
  obtain ⟨a, len, cap, rfl⟩ := okWide_slice ht hv
  obtain ⟨fuel, hf⟩ := h
  rcases Go.Deep.open_int_rows ht he hq ce cq hf with ⟨hcs, _⟩ | ⟨x, l, c, A, L, C, Z, hcs, _, hl, hm, _, hx⟩
  · simp [Value.cells] at hcs
    obtain ⟨rfl, rfl, rfl⟩ := hcs
    exact ⟨[], none, 0, rfl, by simp, by simp, .inl rfl⟩
  · simp [Value.cells] at hcs
    obtain ⟨rfl, rfl, rfl⟩ := hcs
    refine ⟨(List.range len).map fun r => byts ((Z r).take (L r)), some x, cap, by simp, by simpa using hl, hm, ?_⟩
    by_cases h0 : len = 0
    · left; simp [h0]
    · right
      obtain ⟨b, off, spot⟩ := x
      have hc := (hx 0 (by omega)).1
      have hspot : spot = none := by simpa [Addr.add] using World.cell?_spot hc
      subst hspot
      refine ⟨b, off, rfl, fun i hi => ?_⟩
      simp at hi
      obtain ⟨e1, e2, e3, e4, e5, e6, e7⟩ := hx i (by omega)
      rw [Addr.add_lit] at e1
      refine ⟨_, e1, ?_⟩
      have : ((List.range len).map fun r => byts ((Z r).take (L r)))[i]'(by simpa using hi) = byts ((Z i).take (L i)) := by simp
      rw [this]
      exact isB_mk e2 e3 e4 e5 e6 (fun a' ha c hc => (e7 a' ha).2 c hc)
end
end Go.Proofs.YtihgikekkgoddaaGreatDoor
