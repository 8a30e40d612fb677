import Derived.Test.YtjhodmpgggaknaaGreatDoorZGF
import Derived.Test.YtjhodmpgggaknaaGreatDoorZE5
import Derived.Deep.RegionLaw
/- Contract of add. -/
namespace Go.Proofs.YtjhodmpgggaknaaGreatDoor
open Go.RowKit Go.Shelf Go.Maps

def ndAgg (x : Nd) (s : Value) : Value := .agg #[.int .u8 (x.kind.toNat : Int), .int .u8 (x.agg.toNat : Int), s, .int .i64 x.win, .int .u8 (x.cmp.toNat : Int), .int .i64 x.val, .int .i64 x.left, .int .i64 x.right]
/-- .. a call that may take a row of matchers over. -/
def RdAdd (F S : Nat → Prop) (w0 w w' : World) (b : Nat) (ts : List Tk) (ns : List Nd) (fl : Bool) : Prop :=
  ∃ F', RdAt F' w0 w' b ts ns fl ∧ Kept F w w' ∧ (∀ k, F k → F' k) ∧ ∀ k, F' k → F k ∨ S k ∨ w.heap.size ≤ k
theorem RdAt.full {F : Nat → Prop} {w0 w : World} {b : Nat} {ts : List Tk} {ns : List Nd} {fl : Bool} (h : RdAt F w0 w b ts ns fl) : RdAt F w0 (w.setCell ⟨b, 2, none⟩ (.bool true)) b ts ns true := by
  obtain ⟨vr, vn, z, h1, h2, h3, h4, h5, h6, h7⟩ := h.cell
  have hk := kept_set (F := F) w b 2 (.bool true) h.inb
  have hb2 : (w.setCell ⟨b, 2, none⟩ (.bool true)).heap[b]? = some (.cells #[vr, vn, .bool true] 59) := by rw [heap_set_at h1]; rfl
  refine ⟨h.low.trans (hk.below h.low.size h.lo), h.lo, fun k hf => by rw [size_set]; exact h.lt k hf, h.inb, ⟨vr, vn, z, hb2, h2, h3, h4.keep (fun k hv => heap_set _ _ _ _ _ fun e => ?_), h5.keep (fun k c hc => heap_set _ _ _ _ _ fun e => by rw [e, h1] at hc; simp at hc), h6, h7⟩, h.len⟩
  obtain ⟨c, hc⟩ := h4.block hv
  rw [e, h1] at hc; simp at hc
/-- the nodes are set. -/
theorem RdAt.push {F S : Nat → Prop} {w0 w w1 : World} {b : Nat} {ts : List Tk} {fl : Bool} {vr vn vn' : Value} {z : List (Nd × Value)} {x : Nd} {s : Value} (h : RdAt F w0 w b ts (z.map Prod.fst) fl)
    (h1 : w.heap[b]? = some (.cells #[vr, vn, .bool fl] 59)) (h2 : IsTs w0 vr ts) (h4 : OwnZ w0.heap.size w vn z) (h5 : SelO w0.heap.size w z) (h6 : ∀ k, vn.ownBlock = some k → F k) (h7 : ∀ p ∈ z, ∀ k, p.2.ownBlock = some k → F k)
    (hlen : z.length < 31) (hs : Mat.OwnM w0.heap.size w s x.sel) (hS : ∀ k, s.ownBlock = some k → S k)
    (ho : OwnZ w0.heap.size w1 vn' (z ++ [(x, s)])) (hg : w.grownBy w1 vn.ownBlock) (hn : ∀ k, vn'.ownBlock = some k → vn.ownBlock = some k ∨ w.heap.size ≤ k) :
    w1.heap[b]? = some (.cells #[vr, vn, .bool fl] 59) ∧ RdAdd F S w0 w (w1.setCell ⟨b, 1, none⟩ vn') b ts (z.map Prod.fst ++ [x]) fl := by
  have hbn : vn.ownBlock ≠ some b := fun e => by
    obtain ⟨c, hc⟩ := h4.block e
    rw [h1] at hc; simp at hc
  have hb1 : w1.heap[b]? = some (.cells #[vr, vn, .bool fl] 59) := (hg.block b (h.lt b h.inb) (fun e => hbn e.symm)).trans h1
  have hbn' : vn'.ownBlock ≠ some b := fun e => by
    obtain ⟨c, hc⟩ := ho.block e
    rw [hb1] at hc; simp at hc
  refine ⟨hb1, fun k => F k ∨ s.ownBlock = some k ∨ vn'.ownBlock = some k, ?_, (kept_of_grown hg h6).trans (kept_set (F := F) _ _ _ _ h.inb) (fun k hk => .inl hk), fun k hk => .inl hk, ?_⟩
  · have hmat : ∀ (k : Nat) (c : Array Value), w.heap[k]? = some (.cells c 33) → (w1.setCell ⟨b, 1, none⟩ vn').heap[k]? = w.heap[k]? := fun k c hc => by
      have hkb : k ≠ b := fun e => by rw [e, h1] at hc; simp at hc
      have hkv : vn.ownBlock ≠ some k := fun e => by
        obtain ⟨c', hc'⟩ := h4.block e
        rw [hc] at hc'; simp at hc'
      rw [heap_set _ _ _ _ _ hkb]
      exact hg.block k (lt_of_block hc) (fun e => hkv e.symm)
    refine ⟨?_, ?_, ?_, .inl h.inb, ⟨vr, vn', z ++ [(x, s)], ?_, h2, by simp, ho.keep (fun k hv => heap_set _ _ _ _ _ fun e => hbn' (e ▸ hv)), ?_, fun k hk => .inr (.inr hk), ?_⟩, ?_⟩
    · exact h.low.trans (((kept_of_grown hg h6).trans (kept_set (F := F) _ _ _ _ h.inb) (fun k hk => .inl hk)).below h.low.size h.lo)
    · intro k hk
      rcases hk with hk | hk | hk
      · exact h.lo k hk
      · exact (hs.lt hk).1
      · exact (ho.lt hk).1
    · intro k hk
      rw [size_set]
      rcases hk with hk | hk | hk
      · exact Nat.lt_of_lt_of_le (h.lt k hk) hg.size
      · exact Nat.lt_of_lt_of_le (hs.lt hk).2 hg.size
      · exact (ho.lt hk).2
    · rw [heap_set_at hb1]; rfl
    · refine (h5.keep hmat).app ?_
      intro p hp
      simp at hp
      subst hp
      exact hs.keep fun k hk => by
        obtain ⟨c, hc⟩ := ownM_block hs hk
        exact hmat k c hc
    · intro p hp k hk
      rcases List.mem_append.1 hp with hp | hp
      · exact .inl (h7 p hp k hk)
      · simp at hp
        subst hp
        exact .inr (.inl hk)
    · simp; omega
  · intro k hk
    rcases hk with hk | hk | hk
    · exact .inl hk
    · exact .inr (.inl (hS k hk))
    · rcases hn k hk with h | h
      · exact .inl (h6 k h)
      · exact .inr (.inr h)
theorem RdAdd.after {F S : Nat → Prop} {w0 w w1 w2 : World} {b : Nat} {ts : List Tk} {ns : List Nd} {fl : Bool} (hb : Below w.heap.size w w1) (h : RdAdd F S w0 w1 w2 b ts ns fl) : RdAdd F S w0 w w2 b ts ns fl := by
  obtain ⟨F2, h2, k2, i2, f2⟩ := h
  refine ⟨F2, h2, (kept_below hb).trans k2 fun k hk => .inl hk, i2, fun k hk => ?_⟩
  rcases f2 k hk with h | h | h
  · exact .inl h
  · exact .inr (.inl h)
  · exact .inr (.inr (Nat.le_trans hb.size h))
end Go.Proofs.YtjhodmpgggaknaaGreatDoor
