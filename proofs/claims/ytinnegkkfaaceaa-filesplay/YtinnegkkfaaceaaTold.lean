/- The store's contracts over what the store is told to be. -/
import Derived.Test.YtinnegkkfaaceaaW16
namespace Go.Proofs.Ytinnegkkfaaceaa
open Go.RowKit Go.Maps Go.MapKept Go.Shelf

/-- a store that is told to be t. -/
def Is (B : Nat) (w : World) (sb : Nat) (g : Gs) (t : St) : Prop := StoreAt B w sb g ∧ g.abs = t ∧ B ≤ w.heap.size
theorem Is.below {B sb : Nat} {w w' : World} {g : Gs} {t : St} (h : Is B w sb g t) (hb : Below w.heap.size w w') : Is B w' sb g t := ⟨h.1.below hb, h.2.1, Nat.le_trans h.2.2 hb.size⟩
theorem Is.step {B sb : Nat} {w w' : World} {g g' : Gs} {t t' : St} (h : Is B w sb g t) (hs : Step B sb w w' g g') (ht : g'.abs = t') : Is B w' sb g' t' := ⟨hs.store, ht, Nat.le_trans h.2.2 hs.kept.size⟩
/-- all below B stays. -/
theorem Step.low {B sb : Nat} {w w' : World} {g g' : Gs} {t : St} (h : Is B w sb g t) (hs : Step B sb w w' g g') : Below B w w' := hs.kept.below h.2.2 h.1.base
theorem append_t {B sb : Nat} {g : Gs} {t t' : St} {r : Int} (w : World) (h : Is B w sb g t) (n : List UInt8) (hn : n.length ≤ 4294967296) (v2 : Value) (bs : List UInt8) (h2 : IsB w v2 bs) (ha : t.acts < 4611686018427387904) (ht : t.append n bs = (r, t')) :
    Calls Try.prog 18 #[ptr sb, str n, v2] w fun e w' => e = .returned (.int .i64 r) ∧ ∃ g', Step B sb w w' g g' ∧ Is B w' sb g' t' := by
  have hx := append_any w h.1 h.2.2 n hn v2 bs h2 (by have := h.2.1; rw [← this] at ha; exact ha)
  rw [h.2.1, ht] at hx
  refine hx.mono ?_
  rintro e w' ⟨rfl, g', h1, h2⟩
  exact ⟨rfl, g', h2, h.step h2 h1⟩
theorem sync_t {B sb : Nat} {g : Gs} {t t' : St} {r : Int} (w : World) (h : Is B w sb g t) (n : List UInt8) (hn : n.length ≤ maxLen) (ha : t.acts < 4611686018427387904) (ht : t.sync n = (r, t')) :
    Calls Try.prog 25 #[ptr sb, str n] w fun e w' => e = .returned (.int .i64 r) ∧ ∃ g', Step B sb w w' g g' ∧ Is B w' sb g' t' := by
  have hx := sync_any w h.1 h.2.2 n hn (by have := h.2.1; rw [← this] at ha; exact ha)
  rw [h.2.1, ht] at hx
  refine hx.mono ?_
  rintro e w' ⟨rfl, g', h1, h2⟩
  exact ⟨rfl, g', h2, h.step h2 h1⟩
theorem truncate_t {B sb : Nat} {g : Gs} {t t' : St} {r : Int} (w : World) (h : Is B w sb g t) (n : List UInt8) (hn : n.length ≤ maxLen) (k : Int) (ha : t.acts < 4611686018427387904) (ht : t.truncate n k = (r, t')) :
    Calls Try.prog 26 #[ptr sb, str n, .int .i64 k] w fun e w' => e = .returned (.int .i64 r) ∧ ∃ g', Step B sb w w' g g' ∧ Is B w' sb g' t' := by
  have hx := truncate_any w h.1 h.2.2 n hn k (by have := h.2.1; rw [← this] at ha; exact ha)
  rw [h.2.1, ht] at hx
  refine hx.mono ?_
  rintro e w' ⟨rfl, g', h1, h2⟩
  exact ⟨rfl, g', h2, h.step h2 h1⟩
theorem rename_t {B sb : Nat} {g : Gs} {t t' : St} {r : Int} (w : World) (h : Is B w sb g t) (o n : List UInt8) (ho : o.length ≤ maxLen) (hn : n.length ≤ 4294967296) (ha : t.acts < 4611686018427387904) (ht : t.rename o n = (r, t')) :
    Calls Try.prog 27 #[ptr sb, str o, str n] w fun e w' => e = .returned (.int .i64 r) ∧ ∃ g', Step B sb w w' g g' ∧ Is B w' sb g' t' := by
  have hx := rename_any w h.1 h.2.2 o n ho hn (by have := h.2.1; rw [← this] at ha; exact ha)
  rw [h.2.1, ht] at hx
  refine hx.mono ?_
  rintro e w' ⟨rfl, g', h1, h2⟩
  exact ⟨rfl, g', h2, h.step h2 h1⟩
theorem remove_t {B sb : Nat} {g : Gs} {t t' : St} {r : Int} (w : World) (h : Is B w sb g t) (n : List UInt8) (hn : n.length ≤ maxLen) (ha : t.acts < 4611686018427387904) (ht : t.remove n = (r, t')) :
    Calls Try.prog 28 #[ptr sb, str n] w fun e w' => e = .returned (.int .i64 r) ∧ ∃ g', Step B sb w w' g g' ∧ Is B w' sb g' t' := by
  have hx := remove_any w h.1 n hn (by have := h.2.1; rw [← this] at ha; exact ha)
  rw [h.2.1, ht] at hx
  refine hx.mono ?_
  rintro e w' ⟨rfl, g', h1, h2⟩
  exact ⟨rfl, g', h2, h.step h2 h1⟩
theorem power_t {B sb : Nat} {g : Gs} {t : St} (w : World) (h : Is B w sb g t) (x : Int) (hx : -9223372036854775808 ≤ x ∧ x ≤ 9223372036854775807) :
    Calls Try.prog 21 #[ptr sb, .int .i64 x] w fun e w' => e = .returned (.tuple #[]) ∧ ∃ g', Step B sb w w' g g' ∧ Is B w' sb g' { t with left := x } := by
  refine (power_any w h.1 x hx).mono ?_
  rintro e w' ⟨rfl, h1, h2⟩
  have hs : Step B sb w w' g { g with left := x } := ⟨h1, h2, fun k hk => .inl hk⟩
  exact ⟨rfl, _, hs, h.step hs (by rw [← h.2.1]; rfl)⟩
theorem crash_t {B sb : Nat} {g : Gs} {t : St} (w : World) (h : Is B w sb g t) (v : Value) (keep : List Int) (hI : IsI w v keep) (hv : keep ≠ [] → ∀ b, v.ownBlock = some b → ¬ foot sb g b) :
    Calls Try.prog 22 #[ptr sb, v] w fun e w' => e = .returned (.tuple #[]) ∧ ∃ g', Step B sb w w' g g' ∧ Is B w' sb g' (t.crash keep) := by
  refine (crash_any w h.1 h.2.2 v keep hI hv).mono ?_
  rintro e w' ⟨rfl, g', h1, h2⟩
  exact ⟨rfl, g', h2, h.step h2 (by rw [h1, h.2.1])⟩
theorem dead_t {B sb : Nat} {g : Gs} {t : St} (w : World) (h : Is B w sb g t) :
    Calls Try.prog 24 #[ptr sb] w fun e w' => e = .returned (.bool (t.left == 0)) ∧ w' = w := by
  rw [← h.2.1]; exact dead_any w h.1
theorem acts_t {B sb : Nat} {g : Gs} {t : St} (w : World) (h : Is B w sb g t) :
    Calls Try.prog 23 #[ptr sb] w fun e w' => e = .returned (.int .i64 (t.acts : Int)) ∧ w' = w := by
  rw [← h.2.1]; exact acts_any w h.1
theorem size_t {B sb : Nat} {g : Gs} {t : St} {x r : Int} (w : World) (h : Is B w sb g t) (n : List UInt8) (hn : n.length ≤ maxLen) (ht : t.get n (fun f => f.b.length) = (x, r)) :
    Calls Try.prog 16 #[ptr sb, str n] w fun e w' => e = .returned (.tuple #[.int .i64 x, .int .i64 r]) ∧ Below w.heap.size w w' := by
  have hx := size_any w h.1 n hn
  rw [h.2.1, ht] at hx
  exact hx
theorem synced_t {B sb : Nat} {g : Gs} {t : St} {x r : Int} (w : World) (h : Is B w sb g t) (n : List UInt8) (hn : n.length ≤ maxLen) (ht : t.get n (fun f => f.s) = (x, r)) :
    Calls Try.prog 17 #[ptr sb, str n] w fun e w' => e = .returned (.tuple #[.int .i64 x, .int .i64 r]) ∧ Below w.heap.size w w' := by
  have hx := synced_any w h.1 n hn
  rw [h.2.1, ht] at hx
  exact hx
theorem read_t {B sb : Nat} {g : Gs} {t : St} {bs : List UInt8} {r : Int} (w : World) (h : Is B w sb g t) (n : List UInt8) (hn : n.length ≤ maxLen) (ht : t.read n = (bs, r)) :
    Calls Try.prog 15 #[ptr sb, str n] w fun e w' => ∃ a c, e = .returned (.tuple #[.slice a bs.length c, .int .i64 r]) ∧ w'.ownsRow w.heap.size 5 1 (.slice a bs.length c) bs.length (bs.map bv) ∧ Below w.heap.size w w' := by
  have hx := read_any w h.1 n hn
  rw [h.2.1, ht] at hx
  exact hx
theorem new_t (w : World) : Calls Try.prog 10 #[] w fun e w' => e = .returned (ptr (w.heap.size + 1)) ∧ Is w.heap.size w' (w.heap.size + 1) (g0 w.heap.size) ⟨[], 0, -1⟩ ∧ Below w.heap.size w w' ∧ w'.heap.size = w.heap.size + 2 := by
  refine (new_any w).mono ?_
  rintro e w' ⟨rfl, h1, h2, h3⟩
  exact ⟨rfl, ⟨h1, rfl, h2.size⟩, h2, h3⟩
theorem isB_lit (w : World) (bs : List UInt8) (c : Nat) (hb : bs.length ≤ maxLen) : IsB (w.alloc (.cells (bs.map bv).toArray 5)) (.slice (some ⟨w.heap.size, 0, none⟩) bs.length c) bs := by
  refine ⟨hb, _, c, rfl, .inr ⟨w.heap.size, 0, rfl, fun i hi => ?_⟩⟩
  have e : (w.alloc (.cells (bs.map bv).toArray 5)).heap[w.heap.size]? = some (.cells (bs.map bv).toArray 5) := (MapKept.heap_alloc w _).1
  rw [cell_of e, Nat.zero_add]
  simp [List.getD, hi]
theorem isI_lit (w : World) (ks : List Int) (c : Nat) (hc : ks.length ≤ c) (hm : c ≤ maxLen) (hk : ∀ x ∈ ks, -9223372036854775808 ≤ x ∧ x ≤ 9223372036854775807) : IsI (w.alloc (.cells (ks.map (Value.int .i64)).toArray 3)) (.slice (some ⟨w.heap.size, 0, none⟩) ks.length c) ks := by
  refine ⟨by omega, hk, _, c, rfl, hc, hm, .inr ⟨w.heap.size, 0, rfl, fun i hi => ?_⟩⟩
  have e : (w.alloc (.cells (ks.map (Value.int .i64)).toArray 3)).heap[w.heap.size]? = some (.cells (ks.map (Value.int .i64)).toArray 3) := (MapKept.heap_alloc w _).1
  rw [cell_of e, Nat.zero_add]
  simp [List.getD, hi]
end Go.Proofs.Ytinnegkkfaaceaa
