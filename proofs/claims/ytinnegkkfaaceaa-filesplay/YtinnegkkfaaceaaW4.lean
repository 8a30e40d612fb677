/- Contracts of the functions that turn one file, and of put: a file's bytes cloned, a file cut, a name given to a file. -/
import Derived.Test.YtinnegkkfaaceaaMem2
import Derived.Test.YtinnegkkfaaceaaShelf
import Derived.Deep.RegionWith
namespace Go.Proofs.Ytinnegkkfaaceaa
open Go.RowKit Go.Maps Go.MapKept Go.Shelf

def ints (b : List UInt8) : List Int := b.map fun c => (c.toNat : Int)
theorem ints_bv (b : List UInt8) : (ints b).map (Value.int .u8) = b.map bv := by
  simp [ints, bv]
theorem ints_at (b : List UInt8) (i : Nat) : Value.int .u8 ((ints b).getD i 0) = (b.map bv).getD i (.int .u8 0) := by
  by_cases h : i < b.length
  · simp [ints, bv, List.getD, h]
  · simp [ints, List.getD, Nat.le_of_not_lt h]
theorem row_cells {w : World} {base : Nat} {v : Value} {b : List UInt8} (h : w.ownsRow base 5 1 v b.length (b.map bv)) {g n c : Nat} (hv : v = .slice (some ⟨g, 0, none⟩) n c) (i : Nat) (hi : i < b.length) : w.cell? ⟨g, i, none⟩ = some (.int .u8 ((ints b).getD i 0)) := by
  have := h.cells (g := g) (by rw [hv]; rfl) i (.int .u8 ((ints b).getD i 0)) (by rw [ints_at]; simp [List.getD, hi])
  rwa [Addr.add_lit, Nat.zero_add] at this
/-- a file's slice: nil, or a row of its own. -/
theorem row_form {w : World} {base : Nat} {v : Value} {b : List UInt8} (h : w.ownsRow base 5 1 v b.length (b.map bv)) : (v = .slice none 0 0 ∧ b = []) ∨ ∃ g c, v = .slice (some ⟨g, 0, none⟩) b.length c ∧ b.length ≤ c ∧ c ≤ maxLen := by
  rcases h.2 with ⟨rfl, h0⟩ | ⟨g, cap, cur, rfl, _, _, h1, h2, _⟩
  · exact .inl ⟨rfl, List.eq_nil_of_length_eq_zero h0⟩
  · exact .inr ⟨g, cap, rfl, h1, h2⟩
theorem row_slice {w : World} {base : Nat} {e : TypeId} {s : Nat} {v : Value} {n : Nat} {xs : List Value} (h : w.ownsRow base e s v n xs) : ∃ a c, v = .slice a n c := by
  rcases h.2 with ⟨rfl, h0⟩ | ⟨g, cap, cur, rfl, _⟩
  · exact ⟨none, 0, by rw [h0]⟩
  · exact ⟨_, cap, rfl⟩
theorem ownsRow_base {w : World} {base base' : Nat} {e : TypeId} {s : Nat} {v : Value} {n : Nat} {xs : List Value} (h : w.ownsRow base e s v n xs) (hb : ∀ k, v.ownBlock = some k → base' ≤ k) : w.ownsRow base' e s v n xs := by
  refine ⟨h.1, ?_⟩
  rcases h.2 with hn | ⟨g, cap, cur, rfl, h1, h2, rest⟩
  · exact .inl hn
  · exact .inr ⟨g, cap, cur, rfl, hb g rfl, h2, rest⟩
theorem clone_part {w : World} {g n c : Nat} {b : List UInt8} (hb : b.length ≤ 1048576) (hn : b.length = n) (hc : ∀ i, i < b.length → w.cell? ⟨g, i, none⟩ = some (.int .u8 ((ints b).getD i 0))) :
    Calls Try.prog 42 #[.slice (some ⟨g, 0, none⟩) n c] w fun e w' => ∃ v', e = .returned v' ∧ w'.ownsRow w.heap.size 5 1 v' b.length (b.map bv) ∧ Below w.heap.size w w' := by
  subst hn
  refine (Try.bytes_Clone_at ⟨g, 0, none⟩ b.length c (ints b) w (by simp [ints]) (by omega) fun i hi => ?_).mono ?_
  · rw [Addr.add_lit, Nat.zero_add]; exact hc i hi
  · rintro e w' ⟨v', rfl, h1, _, h2⟩
    rw [ints_bv] at h1
    exact ⟨v', rfl, h1, h2⟩
theorem clone_row {w : World} {base : Nat} {v : Value} {b : List UInt8} (h : w.ownsRow base 5 1 v b.length (b.map bv)) (hb : b.length ≤ 1048576) :
    Calls Try.prog 42 #[v] w fun e w' => ∃ v', e = .returned v' ∧ w'.ownsRow w.heap.size 5 1 v' b.length (b.map bv) ∧ Below w.heap.size w w' := by
  rcases row_form h with ⟨rfl, rfl⟩ | ⟨g, c, rfl, h1, h2⟩
  · refine (Try.bytes_Clone_nil 0 0 w).mono ?_
    rintro e w' ⟨rfl, rfl⟩
    exact ⟨_, rfl, World.ownsRow_nil _ _ _ _, Below.refl _ _⟩
  · exact clone_part hb rfl (row_cells h rfl)
set_option maxHeartbeats 400000 in
theorem strClone (w : World) (n : List UInt8) (hn : n.length ≤ 1048576) :
    Calls Try.prog 64 #[str n] w fun e w' => e = .returned (str n) ∧ Below w.heap.size w w' := by
  have hc := hid (Try.stringslite_Clone ⟨n.toArray⟩ w (by show n.toArray.size ≤ _; simp; omega))
  unfold str
  go_enter Try.func64, Try.ntmps64
  go_wp2_with (go_at_call 68; refine hc.out.mono ?_; rintro e w' ⟨rfl, hb⟩; have hb := hid hb)
  go_ret
  exact ⟨rfl, hb.out⟩
end Go.Proofs.Ytinnegkkfaaceaa
