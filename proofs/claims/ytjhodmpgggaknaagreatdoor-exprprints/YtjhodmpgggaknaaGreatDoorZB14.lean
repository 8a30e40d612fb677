import Derived.Test.YtjhodmpgggaknaaGreatDoorZGM
/- Rows of conditions: what their calls share; one. -/
namespace Go.Proofs.YtjhodmpgggaknaaGreatDoor
open Go.RowKit Go.Shelf Go.Maps

def rowv (rb wb : Nat) : Value := .func (.func 41) #[] #[.pointer (some ⟨rb, 0, none⟩), .pointer (some ⟨wb, 0, none⟩)]
/-- the closure's two boxes. -/
structure RowEnv (F : Nat → Prop) (w : World) (b rb wb : Nat) : Prop where
  c1 : w.cell? ⟨rb, 0, none⟩ = some (ptr b)
  c2 : w.cell? ⟨wb, 0, none⟩ = some (rowv rb wb)
  n1 : ¬ F rb
  n2 : ¬ F wb
def Ch (F F1 : Nat → Prop) (w0 w w1 : World) (b : Nat) : Prop := ∀ (w2 : World) (ts' : List Tk) (ns' : List Nd) (fl' : Bool), RdTo F1 no w0 w1 w2 b ts' ns' fl' → RdTo F no w0 w w2 b ts' ns' fl'
theorem Ch.refl (F : Nat → Prop) (w0 w : World) (b : Nat) : Ch F F w0 w w b := fun _ _ _ _ h => h
theorem Ch.trans {F F1 F2 : Nat → Prop} {w0 w w1 w2 : World} {b : Nat} (h : Ch F F1 w0 w w1 b) (k : Ch F1 F2 w0 w1 w2 b) : Ch F F2 w0 w w2 b := fun _ _ _ _ x => h _ _ _ _ (k _ _ _ _ x)
/-- what stands between two calls. -/
structure RowI (F F1 : Nat → Prop) (w0 w w1 : World) (b rb wb : Nat) (ts : List Tk) (ns : List Nd) (fl : Bool) : Prop where
  rd : RdAt F1 w0 w1 b ts ns fl
  env : RowEnv F1 w1 b rb wb
  ch : Ch F F1 w0 w w1 b
theorem RowI.to {F F1 : Nat → Prop} {w0 w w1 : World} {b rb wb : Nat} {ts : List Tk} {ns : List Nd} {fl : Bool} (h : RowI F F1 w0 w w1 b rb wb ts ns fl) : RdTo F no w0 w w1 b ts ns fl := h.ch _ _ _ _ (h.rd.to no)
theorem RowI.start {F : Nat → Prop} {w0 w : World} {b rb wb : Nat} {ts : List Tk} {ns : List Nd} {fl : Bool} (h : RdAt F w0 w b ts ns fl) (he : RowEnv F w b rb wb) : RowI F F w0 w w b rb wb ts ns fl := ⟨h, he, Ch.refl _ _ _ _⟩
theorem RowI.call {F F1 : Nat → Prop} {w0 w w1 w2 : World} {b rb wb : Nat} {ts ts2 : List Tk} {ns ns2 : List Nd} {fl fl2 : Bool} (h : RowI F F1 w0 w w1 b rb wb ts ns fl) (hr : RdTo F1 no w0 w1 w2 b ts2 ns2 fl2) : ∃ F2, RowI F F2 w0 w w2 b rb wb ts2 ns2 fl2 := by
  obtain ⟨F2, r2, k2, i2, f2⟩ := hr
  have hlt1 := World.block_lt_of_cell? w1 _ h.env.c1
  have hlt2 := World.block_lt_of_cell? w1 _ h.env.c2
  have hn : ∀ k, k < w1.heap.size → ¬ F1 k → ¬ F2 k := fun k hk hf h2 => by
    rcases f2 k h2 with e | e
    · exact hf e
    · omega
  have hb : ∀ k, k < w1.heap.size → ¬ F1 k → w2.heap[k]? = w1.heap[k]? := fun k hk hf => k2.block k hk (by rintro (e | e); exact hf e; exact e)
  exact ⟨F2, r2, ⟨(cell_block (hb rb hlt1 h.env.n1)).trans h.env.c1, (cell_block (hb wb hlt2 h.env.n2)).trans h.env.c2, hn rb hlt1 h.env.n1, hn wb hlt2 h.env.n2⟩, h.ch.trans fun _ _ _ _ x => x.comp k2 i2 f2⟩
/-- put one node more. -/
theorem RowI.add {F F1 : Nat → Prop} {w0 w w1 w2 : World} {b rb wb : Nat} {ts ts2 : List Tk} {ns ns2 : List Nd} {fl fl2 : Bool} (h : RowI F F1 w0 w w1 b rb wb ts ns fl) (hr : RdAdd F1 no w0 w1 w2 b ts2 ns2 fl2) : ∃ F2, RowI F F2 w0 w w2 b rb wb ts2 ns2 fl2 := by
  obtain ⟨F2, r2, k2, i2, f2⟩ := hr
  exact h.call ⟨F2, r2, k2.mono fun _ _ hk => .inl hk, i2, fun k hk => show F1 k ∨ w1.heap.size ≤ k by
    rcases f2 k hk with e | e | e
    · exact .inl e
    · exact e.elim
    · exact .inr e⟩
def RowPost (v : Lev) (F : Nat → Prop) (w0 w : World) (b : Nat) (ts : List Tk) (ns : List Nd) (fl : Bool) (e : Ending) (w' : World) : Prop :=
  ∃ ts' root ok, e = .returned (.tuple #[.int .i64 root, .bool ok]) ∧ (ok = false → (∃ ns' fl', RdTo F no w0 w w' b ts' ns' fl') ∧ pE v (keysT ts) = none) ∧ (ok = true → ∃ t, pE v (keysT ts) = some (t, keysT ts') ∧ Suf ts' ts ∧ RdTo F no w0 w w' b ts' (addT (ns, fl, 0) t).1 (addT (ns, fl, 0) t).2.1 ∧ root = (addT (ns, fl, 0) t).2.2)
end Go.Proofs.YtjhodmpgggaknaaGreatDoor
