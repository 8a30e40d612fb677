/- Contracts of the store's small functions: made, Dead, Acts, Power, count, mayBe. -/
import Derived.Test.YtinnegkkfaaceaaMem
import Derived.Deep.QuietTactic
import Derived.BigQuiet
import Derived.WalkLawsBesides
import Derived.WalkSpells
namespace Go.Proofs.Ytinnegkkfaaceaa
open Go.RowKit Go.Maps
theorem neqMap (m : Option Nat) (w : World) : (binOp .neq 50 (.map m) (.map none)).run Try.prog w = .ok (.bool (!m.isNone)) w := run_neq_map_nil w 50 9 73 m Try.underlying50

set_option maxHeartbeats 400000 in
theorem made_yes {B sb : Nat} {g : Gs} (w : World) (h : StoreAt B w sb g) :
    Calls Try.prog 51 #[ptr sb] w fun e w' => e = .returned (.bool true) ∧ w' = w := by
  have c0 : w.cell? ⟨sb, 0, none⟩ = some (.map (some g.mb)) := by rw [cell_of h.cell]; rfl
  unfold ptr
  clear h
  have hn := neqMap
  go_enter Try.func51, Try.ntmps51
  go_wp2
  go_ret
  exact ⟨rfl, rfl⟩
set_option maxHeartbeats 400000 in
theorem made_nil (w : World) :
    Calls Try.prog 51 #[.pointer none] w fun e w' => e = .returned (.bool false) ∧ w' = w := by
  go_enter Try.func51, Try.ntmps51
  go_wp2
  go_ret
  exact ⟨rfl, rfl⟩
set_option maxHeartbeats 400000 in
theorem made_no (w : World) (a : Addr) (h : w.cell? a = some (.map none)) :
    Calls Try.prog 51 #[.pointer (some a)] w fun e w' => e = .returned (.bool false) ∧ w' = w := by
  obtain ⟨b, o, sp⟩ := a
  obtain rfl : sp = none := by simpa using World.cell?_spot h
  have hn := neqMap
  go_enter Try.func51, Try.ntmps51
  go_wp2
  go_ret
  exact ⟨rfl, rfl⟩
set_option maxHeartbeats 400000 in
theorem dead_any {B sb : Nat} {g : Gs} (w : World) (h : StoreAt B w sb g) :
    Calls Try.prog 24 #[ptr sb] w fun e w' => e = .returned (.bool (g.left == 0)) ∧ w' = w := by
  have hm := hid (made_yes w h)
  have c2 : w.cell? ⟨sb, 2, none⟩ = some (.int .i64 g.left) := by rw [cell_of h.cell]; rfl
  unfold ptr at hm ⊢
  clear h
  go_enter Try.func24, Try.ntmps24
  go_wp2_with (go_at_call 51; refine hm.out.mono ?_; rintro e w' ⟨rfl, rfl⟩)
  go_ret
  exact ⟨rfl, rfl⟩
set_option maxHeartbeats 400000 in
theorem acts_any {B sb : Nat} {g : Gs} (w : World) (h : StoreAt B w sb g) :
    Calls Try.prog 23 #[ptr sb] w fun e w' => e = .returned (.int .i64 (g.acts : Int)) ∧ w' = w := by
  have hm := hid (made_yes w h)
  have c1 : w.cell? ⟨sb, 1, none⟩ = some (.int .i64 (g.acts : Int)) := by rw [cell_of h.cell]; rfl
  unfold ptr at hm ⊢
  clear h
  go_enter Try.func23, Try.ntmps23
  go_wp2_with (go_at_call 51; refine hm.out.mono ?_; rintro e w' ⟨rfl, rfl⟩)
  go_ret
  exact ⟨rfl, rfl⟩
theorem StoreAt.left {B sb : Nat} {g : Gs} {w : World} (h : StoreAt B w sb g) (x : Int) (hx : -9223372036854775808 ≤ x ∧ x ≤ 9223372036854775807) : StoreAt B (w.setCell ⟨sb, 2, none⟩ (.int .i64 x)) sb { g with left := x } := by
  have hs : ∀ k, k ≠ sb → (w.setCell ⟨sb, 2, none⟩ (.int .i64 x)).heap[k]? = w.heap[k]? := fun k hk => heap_set w sb 2 _ k hk
  obtain ⟨D, hD, hM⟩ := h.map
  exact ⟨by rw [heap_set_at h.cell]; rfl, ⟨D, ownsMap_block hD (hs _ h.sb_mb.symm), hM⟩, fun f hf => (h.files f hf).keep fun k hk => hs k (h.sb_f hf hk), h.apart, h.rising, h.few, h.base, hx⟩
theorem StoreAt.act {B sb : Nat} {g : Gs} {w : World} (h : StoreAt B w sb g) (x : Nat) : StoreAt B (w.setCell ⟨sb, 1, none⟩ (.int .i64 x)) sb { g with acts := x } := by
  have hs : ∀ k, k ≠ sb → (w.setCell ⟨sb, 1, none⟩ (.int .i64 x)).heap[k]? = w.heap[k]? := fun k hk => heap_set w sb 1 _ k hk
  obtain ⟨D, hD, hM⟩ := h.map
  exact ⟨by rw [heap_set_at h.cell]; rfl, ⟨D, ownsMap_block hD (hs _ h.sb_mb.symm), hM⟩, fun f hf => (h.files f hf).keep fun k hk => hs k (h.sb_f hf hk), h.apart, h.rising, h.few, h.base, h.leftb⟩
set_option maxHeartbeats 400000 in
theorem power_any {B sb : Nat} {g : Gs} (w : World) (h : StoreAt B w sb g) (x : Int) (hx : -9223372036854775808 ≤ x ∧ x ≤ 9223372036854775807) :
    Calls Try.prog 21 #[ptr sb, .int .i64 x] w fun e w' => e = .returned (.tuple #[]) ∧ StoreAt B w' sb { g with left := x } ∧ Kept (foot sb g) w w' := by
  have hm := hid (made_yes w h)
  have fz : w.frozen? ⟨sb, 2, none⟩ = false := frozen_of h.cell 2
  have c2 : w.cell? ⟨sb, 2, none⟩ = some (.int .i64 g.left) := by rw [cell_of h.cell]; rfl
  have hh := hid (h.left x hx)
  have hk := hid (kept_set (F := foot sb g) w sb 2 (.int .i64 x) (.inl rfl))
  unfold ptr at hm ⊢
  clear h hx
  go_enter Try.func21, Try.ntmps21
  go_wp2_with (go_at_call 51; refine hm.out.mono ?_; rintro e w' ⟨rfl, rfl⟩)
  go_end0
  exact ⟨rfl, hh.out, hk.out⟩
/-- one more act. -/
def done (g : Gs) : Gs := { g with acts := g.acts + 1, left := if 0 < g.left then g.left - 1 else g.left }
set_option maxHeartbeats 400000 in
theorem count_no (w : World) (a : Value) (x : Int) (hx : x ≠ 0) :
    Calls Try.prog 46 #[a, .int .i64 x] w fun e w' => e = .returned (.int .i64 x) ∧ w' = w := by
  have hx' : (x == 0) = false := by simpa using hx
  go_enter Try.func46, Try.ntmps46
  go_wp2
  go_ret
  exact ⟨rfl, rfl⟩
set_option maxHeartbeats 400000 in
theorem count_yes {B sb : Nat} {g : Gs} (w : World) (h : StoreAt B w sb g) (ha : g.acts < 4611686018427387904) :
    Calls Try.prog 46 #[ptr sb, .int .i64 0] w fun e w' => e = .returned (.int .i64 0) ∧ StoreAt B w' sb (done g) ∧ Kept (foot sb g) w w' := by
  have f1 : w.frozen? ⟨sb, 1, none⟩ = false := frozen_of h.cell 1
  have f2 : w.frozen? ⟨sb, 2, none⟩ = false := frozen_of h.cell 2
  have c1 : w.cell? ⟨sb, 1, none⟩ = some (.int .i64 (g.acts : Int)) := by rw [cell_of h.cell]; rfl
  have c2 : w.cell? ⟨sb, 2, none⟩ = some (.int .i64 g.left) := by rw [cell_of h.cell]; rfl
  have hl := h.leftb
  have hh := hid h
  unfold ptr
  clear h
  obtain ⟨mb, l, acts, left⟩ := g
  simp only at c1 c2 hl ha
  by_cases hp : 0 < left
  · go_enter Try.func46, Try.ntmps46
    go_wp2
    go_ret
    refine ⟨rfl, ?_, ?_⟩
    · have := (hh.out.act (acts + 1)).left (left - 1) (by omega)
      simpa [done, hp] using this
    · exact (kept_set (F := foot sb ⟨mb, l, acts, left⟩) w sb 1 _ (.inl rfl)).trans (kept_set (F := foot sb ⟨mb, l, acts, left⟩) _ sb 2 _ (.inl rfl)) fun k hk => .inl hk
  · go_enter Try.func46, Try.ntmps46
    go_wp2
    go_ret
    refine ⟨rfl, ?_, ?_⟩
    · have := hh.out.act (acts + 1)
      rw [show done ⟨mb, l, acts, left⟩ = ⟨mb, l, acts + 1, left⟩ by simp only [done]; rw [if_neg (by omega)]]
      simpa using this
    · exact kept_set (F := foot sb ⟨mb, l, acts, left⟩) w sb 1 _ (.inl rfl)
def mayB (n : List UInt8) : Bool := decide (1 ≤ n.length ∧ n.length ≤ 32)
set_option maxHeartbeats 400000 in
theorem mayBe_any (w : World) (n : List UInt8) (hn : n.length ≤ 4294967296) :
    Calls Try.prog 49 #[str n] w fun e w' => e = .returned (.bool (mayB n)) ∧ w' = w := by
  have hs : (⟨n.toArray⟩ : ByteArray).size = n.length := by show n.toArray.size = _; simp
  unfold str
  by_cases h1 : 1 ≤ n.length
  · by_cases h2 : n.length ≤ 32
    · have e : mayB n = true := by simp [mayB, h1, h2]
      have E := hid e; clear e
      have h2' : decide ((n.length : Int) ≤ 32) = true := by simp; omega
      go_enter Try.func49, Try.ntmps49
      go_wp2
      go_ret
      rw [E.out]
      exact ⟨rfl, rfl⟩
    · have e : mayB n = false := by simp [mayB]; omega
      have E := hid e; clear e
      have h2' : decide ((n.length : Int) ≤ 32) = false := by simp; omega
      go_enter Try.func49, Try.ntmps49
      go_wp2
      go_ret
      rw [E.out]
      exact ⟨rfl, rfl⟩
  · have e : mayB n = false := by simp [mayB]; omega
    have E := hid e; clear e
    go_enter Try.func49, Try.ntmps49
    go_wp2
    go_ret
    rw [E.out]
    exact ⟨rfl, rfl⟩
end Go.Proofs.Ytinnegkkfaaceaa
