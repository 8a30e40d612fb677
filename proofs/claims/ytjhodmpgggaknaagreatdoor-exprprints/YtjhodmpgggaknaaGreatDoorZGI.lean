/- Joined: RL C6 C7 C8. -/
import Derived.RangeFuncNested
import Derived.RangeFuncBound
import Derived.RangeFuncCalls
import Derived.RangeFuncLeaves
import Derived.Shelf.Abstract
import Derived.Shelf.RegionOpen
import Derived.WalkKit
import Derived.OwnWalkIn
import Derived.TacticsInMore
import Derived.LoopNIn
import Derived.LoopIn
import Derived.Test.YtjhodmpgggaknaaGreatDoorZGR
import Derived.Test.YtjhodmpgggaknaaGreatDoorZGH
import Derived.Test.YtjhodmpgggaknaaGreatDoorZGB
import Derived.Test.YtjhodmpgggaknaaGreatDoorZGC
/- A loop over a function: what a round turns is told by what holds ahead of it and behind it; between lo and hi, where the iterator and the loop keep what is theirs, it turns nothing. No program is named. -/
namespace Go.Proofs.YtjhodmpgggaknaaGreatDoor
open Go.RowKit

/-- blocks from lo up to hi lie as they did. -/
def Lies (lo hi : Nat) (W W' : World) : Prop := W.heap.size ≤ W'.heap.size ∧ ∀ b, lo ≤ b → b < hi → W'.heap[b]? = W.heap[b]?
theorem Lies.refl (lo hi : Nat) (W : World) : Lies lo hi W W := ⟨Nat.le_refl _, fun _ _ _ => rfl⟩
end Go.Proofs.YtjhodmpgggaknaaGreatDoor
/- Contracts: Tell, and the functions that it makes, as what they go over. -/
namespace Go.Proofs.YtjhodmpgggaknaaGreatDoor
open Go.RowKit Go.Shelf
attribute [local go_sem] Oper.semAt_some

end Go.Proofs.YtjhodmpgggaknaaGreatDoor
/- Contract of Tell. -/
namespace Go.Proofs.YtjhodmpgggaknaaGreatDoor
open Go.RowKit Go.Shelf

end Go.Proofs.YtjhodmpgggaknaaGreatDoor
/- Contract of All. -/
namespace Go.Proofs.YtjhodmpgggaknaaGreatDoor
open Go.RowKit Go.Shelf
attribute [local go_sem] Oper.semAt_some

/-- the tokens of the first k rows. -/
def toks (r : List (Tk × Nat)) (k : Nat) : List Tk := (r.take k).map Prod.fst
/-- All's own memory between two rounds. -/
structure AllI (n B : Nat) (w : World) (Dat : World → Prop) (r : List (Tk × Nat)) (hi k : Nat) (W : World) : Prop where
  dat : Dat W
  low : Below w.heap.size w W
  sz : B ≤ W.heap.size
  b2 : Boxed W n 38 (.slice none 0 0)
  b3 : Boxed W (n + 1) 3 (.int .i64 0)
  b4 : Boxed W (n + 1 + 1) 25 (.int .i64 0)
  row : ∃ a c, Boxed W (n + 1 + 1 + 1) 38 (.slice a k c) ∧ (B + 2 ≤ hi → OwnT hi W (.slice a k c) (toks r k))
  zero : ∀ x ∈ r.take k, x.2 = 0
structure AllX (n : Nat) (w : World) (r : List (Tk × Nat)) (W : World) : Prop where
  low : Below w.heap.size w W
  out : ∃ x e, (x, e) ∈ r ∧ e ≠ 0 ∧ Boxed W n 38 (.slice none 0 0) ∧ Boxed W (n + 1) 3 (.int .i64 (x.at_ : Int)) ∧ Boxed W (n + 1 + 1) 25 (.int .i64 (e : Int))
theorem AllI.kept {n B : Nat} {w : World} {Dat : World → Prop} {r : List (Tk × Nat)} {hi k : Nat} {A C : World} (h : AllI n B w Dat r hi k A) (hn : n = w.heap.size) (hB : n + 4 ≤ B)
    (hd : ∀ A C, Dat A → (∀ b, n + 4 ≤ b → b < B → C.heap[b]? = A.heap[b]?) → Dat C) (hk : Kept (fun b => b = B ∨ b = B + 1) A C) : AllI n B w Dat r hi k C := by
  have bx : ∀ {b t v}, b < B → Boxed A b t v → Boxed C b t v := fun hb h2 => (hk.block _ h2.lt (by omega)).trans h2
  obtain ⟨a, c, h1, h2⟩ := h.row
  have hs := h.low.size
  refine ⟨hd A C h.dat fun b h1 h2 => hk.block b (by have := h.sz; omega) (by omega), h.low.trans (hk.below hs fun k hk => by omega), Nat.le_trans h.sz hk.size, bx (by omega) h.b2, bx (by omega) h.b3, bx (by omega) h.b4, ⟨a, c, bx (by omega) h1, fun hh => ?_⟩, h.zero⟩
  exact (h2 hh).keep fun b hb => by
    have := (h2 hh).lt hb
    exact hk.block b this.2 (by omega)
theorem AllX.kept {n B : Nat} {w : World} {r : List (Tk × Nat)} {A C : World} (h : AllX n w r A) (hn : n = w.heap.size) (hB : n + 4 ≤ B) (hk : Kept (fun b => b = B ∨ b = B + 1) A C) : AllX n w r C := by
  have bx : ∀ {b t v}, b < B → Boxed A b t v → Boxed C b t v := fun hb h2 => (hk.block _ h2.lt (by omega)).trans h2
  obtain ⟨x, e, h1, h2, h3, h4, h5⟩ := h.out
  have hs : w.heap.size ≤ A.heap.size := h.low.size
  exact ⟨h.low.trans ⟨hk.os, hk.tape, hk.output, hk.size, fun b hb => hk.block b (by omega) (by omega)⟩, x, e, h1, h2, bx (by omega) h3, bx (by omega) h4, bx (by omega) h5⟩
end Go.Proofs.YtjhodmpgggaknaaGreatDoor
