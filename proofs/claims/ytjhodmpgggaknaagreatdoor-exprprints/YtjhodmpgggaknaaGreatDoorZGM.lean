/- Joined: B9 B10 B11 B12 B13. -/
import Derived.Test.YtjhodmpgggaknaaGreatDoorZB7
import Derived.Test.YtjhodmpgggaknaaGreatDoorZNParse
import Derived.Shelf.Strings.SlTrimAscii
import Derived.Test.YtjhodmpgggaknaaGreatDoorZB8
/- Contracts of mayWindow, window, value. -/
namespace Go.Proofs.YtjhodmpgggaknaaGreatDoor
open Go.RowKit Go.Shelf Go.Maps

/-- the library's two errors lie where they are laid. -/
structure EnvE (w : World) : Prop where
  er : ∃ tp p, w.cell? ⟨4, 0, none⟩ = some (.iface tp p)
  es : ∃ tp p, w.cell? ⟨3, 0, none⟩ = some (.iface tp p)
theorem EnvE.below {w w' : World} (h : EnvE w) (hb : Below w.heap.size w w') : EnvE w' := by
  obtain ⟨⟨t, p, h1⟩, ⟨t2, p2, h2⟩⟩ := h
  exact ⟨⟨t, p, (hb.cell (p := ⟨_, 0, none⟩) (World.block_lt_of_cell? w _ h1)).trans h1⟩, ⟨t2, p2, (hb.cell (p := ⟨_, 0, none⟩) (World.block_lt_of_cell? w _ h2)).trans h2⟩⟩
/-- the operators' table. -/
structure EnvO (w : World) : Prop where
  c0 : w.cell? ⟨0, 0, none⟩ = some (.string ⟨#[111, 114]⟩)
  c1 : w.cell? ⟨0, 1, none⟩ = some (.int .u8 2)
  c2 : w.cell? ⟨0, 2, none⟩ = some (.string ⟨#[97, 110, 100]⟩)
  c3 : w.cell? ⟨0, 3, none⟩ = some (.int .u8 1)
theorem EnvO.below {w w' : World} (h : EnvO w) (hb : Below w.heap.size w w') : EnvO w' := by
  have hlt := World.block_lt_of_cell? w _ h.c0
  exact ⟨(hb.cell (p := ⟨_, 0, none⟩) hlt).trans h.c0, (hb.cell (p := ⟨_, 1, none⟩) hlt).trans h.c1, (hb.cell (p := ⟨_, 2, none⟩) hlt).trans h.c2, (hb.cell (p := ⟨_, 3, none⟩) hlt).trans h.c3⟩

def digits10 : List UInt8 := [48, 49, 50, 51, 52, 53, 54, 55, 56, 57]
theorem foldl_mono : ∀ (l : Tx) (a : Nat), a ≤ l.foldl (fun n c => n * 10 + (c.toNat - 48)) a
  | [], a => Nat.le_refl _
  | c :: l, a => by
    rw [List.foldl_cons]
    have := foldl_mono l (a * 10 + (c.toNat - 48))
    omega
theorem trim_any (s : Tx) (w : World) (hs : s.length ≤ 9223372036854775807) : Calls Tryz.prog 114 #[.string ⟨s.toArray⟩, .string ⟨#[48, 49, 50, 51, 52, 53, 54, 55, 56, 57]⟩] w fun e w' => e = .returned (.string ⟨(Lib.trimS s digits10).toArray⟩) ∧ Below w.heap.size w w' := by
  have h : Calls Tryz.prog 114 #[.string ⟨s.toArray⟩, .string ⟨#[48, 49, 50, 51, 52, 53, 54, 55, 56, 57]⟩] w fun e w' => e = .returned (.string ⟨(Lib.trimS s digits10).toArray⟩) ∧ Below w.heap.size w w' := Any.strings_Trim_laid Tryz.lays160 (by kernel_rfl) ⟨s.toArray⟩ ⟨#[48, 49, 50, 51, 52, 53, 54, 55, 56, 57]⟩ w (by simpa [ByteArray.size] using hs) (by decide) (ascii_of_all (by decide))
  exact h
def winB (n : Int) : Bool := decide (1 ≤ n) && decide (n ≤ 1000)
theorem mayWindow_any (n : Int) (w : World) : Calls Tryz.prog 51 #[.int .i64 n] w fun e w' => e = .returned (.bool (winB n)) ∧ w' = w := by
  by_cases h1 : 1 ≤ n
  · by_cases h2 : n ≤ 1000
    · have e : Hid (true = winB n) := by show _ = _; simp [winB, h1, h2]
      go_enter Tryz.func51, Tryz.ntmps51
      go_wp2
      go_ret
      exact ⟨ret_bool e.out, rfl⟩
    · have e : Hid (false = winB n) := by show _ = _; simp [winB, h2]
      go_enter Tryz.func51, Tryz.ntmps51
      go_wp2
      go_ret
      exact ⟨ret_bool e.out, rfl⟩
  · have e : Hid (false = winB n) := by show _ = _; simp [winB, h1]
    go_enter Tryz.func51, Tryz.ntmps51
    go_wp2
    go_ret
    exact ⟨ret_bool e.out, rfl⟩
end Go.Proofs.YtjhodmpgggaknaaGreatDoor
/- Contract of window. -/
namespace Go.Proofs.YtjhodmpgggaknaaGreatDoor
open Go.RowKit Go.Shelf Go.Maps

end Go.Proofs.YtjhodmpgggaknaaGreatDoor
/- Contract of value. -/
namespace Go.Proofs.YtjhodmpgggaknaaGreatDoor
open Go.RowKit Go.Shelf Go.Maps

theorem RdTo.next {F : Nat → Prop} {w0 w w1 : World} {b : Nat} {ts : List Tk} {ns : List Nd} {fl : Bool} (h : RdTo F no w0 w w1 b ts ns fl) : ∃ F1, RdAt F1 w0 w1 b ts ns fl ∧ ∀ {w2 : World} {ts' : List Tk}, RdTo F1 no w0 w1 w2 b ts' ns fl → RdTo F no w0 w w2 b ts' ns fl := by
  obtain ⟨F1, r1, k1, i1, f1⟩ := h
  exact ⟨F1, r1, fun h2 => h2.comp k1 i1 f1⟩
end Go.Proofs.YtjhodmpgggaknaaGreatDoor
/- Contract of comparison: plain part, and what stays between its calls. -/
namespace Go.Proofs.YtjhodmpgggaknaaGreatDoor
open Go.RowKit Go.Shelf Go.Maps

/-- between comparison's calls. -/
structure CI (F F1 : Nat → Prop) (w0 w : World) (b pb : Nat) (cs : Array Value) (ns : List Nd) (fl : Bool) (ts1 : List Tk) (sel : List Mat.Mt) (sv : Value) (W : World) : Prop where
  rd : RdAt F1 w0 W b ts1 ns fl
  kept : Kept F w W
  inc : ∀ k, F k → F1 k
  new : ∀ k, F1 k → F k ∨ w.heap.size ≤ k
  box : W.heap[pb]? = some (.cells cs 31)
  far : w.heap.size ≤ pb
  out : ¬ F1 pb
  own : Mat.OwnM w0.heap.size W sv sel
  sep : ∀ k, sv.ownBlock = some k → w.heap.size ≤ k ∧ ¬ F1 k
theorem CI.to {F F1 : Nat → Prop} {w0 w : World} {b pb : Nat} {cs : Array Value} {ns : List Nd} {fl : Bool} {ts1 : List Tk} {sel : List Mat.Mt} {sv : Value} {W : World} (h : CI F F1 w0 w b pb cs ns fl ts1 sel sv W) : RdTo F no w0 w W b ts1 ns fl := ⟨F1, h.rd, h.kept.mono fun _ _ hk => .inl hk, h.inc, h.new⟩
theorem CI.below {F F1 : Nat → Prop} {w0 w : World} {b pb : Nat} {cs : Array Value} {ns : List Nd} {fl : Bool} {ts1 : List Tk} {sel : List Mat.Mt} {sv : Value} {W W2 : World} (h : CI F F1 w0 w b pb cs ns fl ts1 sel sv W) (hb : Below W.heap.size W W2) : CI F F1 w0 w b pb cs ns fl ts1 sel sv W2 :=
  ⟨h.rd.below hb, h.kept.trans (F' := fun _ => False) (kept_below hb) fun _ hk => hk.elim, h.inc, h.new, (hb.block pb (lt_of_block h.box)).trans h.box, h.far, h.out, h.own.below hb, h.sep⟩
/-- a call that turns the reader and the box alone. -/
theorem CI.call {F F1 : Nat → Prop} {w0 w : World} {b pb : Nat} {cs cs2 : Array Value} {ns : List Nd} {fl : Bool} {ts1 ts2 : List Tk} {sel : List Mat.Mt} {sv : Value} {W W2 : World} {G' : Nat → Prop} (h : CI F F1 w0 w b pb cs ns fl ts1 sel sv W) (hr : RdTo F1 G' w0 W W2 b ts2 ns fl) (hG : ∀ k, G' k → k = pb) (hx : W2.heap[pb]? = some (.cells cs2 31)) : ∃ F2, CI F F2 w0 w b pb cs2 ns fl ts2 sel sv W2 := by
  obtain ⟨F2, r2, k2, i2, f2⟩ := hr
  have hpb := lt_of_block h.box
  have hsv : ∀ k, sv.ownBlock = some k → k ≠ pb := fun k hk e => by
    obtain ⟨c, hc⟩ := ownM_block h.own hk
    rw [e, h.box] at hc
    simp at hc
  refine ⟨F2, r2, h.kept.trans k2 fun k hk => ?_, fun k hk => i2 k (h.inc k hk), fun k hk => ?_, hx, h.far, fun hf => ?_, h.own.keep fun k hk => ?_, fun k hk => ⟨(h.sep k hk).1, fun hf => ?_⟩⟩
  · rcases hk with hk | hk
    · exact h.new k hk
    · rw [hG k hk]; exact .inr h.far
  · rcases f2 k hk with e | e
    · exact h.new k e
    · exact .inr (Nat.le_trans h.kept.size e)
  · rcases f2 pb hf with e | e
    · exact h.out e
    · omega
  · exact k2.block k (h.own.lt hk).2 (by rintro (e | e); exact (h.sep k hk).2 e; exact hsv k hk (hG k e))
  · rcases f2 k hf with e | e
    · exact (h.sep k hk).2 e
    · have := (h.own.lt hk).2; omega
theorem CI.same {F F1 : Nat → Prop} {w0 w : World} {b pb : Nat} {cs : Array Value} {ns : List Nd} {fl : Bool} {ts1 ts2 : List Tk} {sel : List Mat.Mt} {sv : Value} {W W2 : World} (h : CI F F1 w0 w b pb cs ns fl ts1 sel sv W) (hr : RdTo F1 no w0 W W2 b ts2 ns fl) : ∃ F2, CI F F2 w0 w b pb cs ns fl ts2 sel sv W2 := by
  refine h.call hr (fun k hk => hk.elim) ?_
  obtain ⟨F2, r2, k2, i2, f2⟩ := hr
  rw [k2.block pb (lt_of_block h.box) (by rintro (e | e); exact h.out e; exact e)]
  exact h.box
/-- matchers' call. -/
theorem CI.sel {F F1 F2 : Nat → Prop} {w0 w : World} {b pb : Nat} {cs : Array Value} {ns : List Nd} {fl : Bool} {ts1 ts2 : List Tk} {sel sel0 : List Mat.Mt} {sv sv0 : Value} {W W2 : World} {G' : Nat → Prop} (h : CI F F1 w0 w b pb cs ns fl ts1 sel0 sv0 W) (hG : ∀ k, G' k → k = pb) (hm : MsI F1 G' F2 w0 W b pb cs 31 ns fl ts2 sel sv W2) : CI F F2 w0 w b pb (cs.setIfInBounds 2 sv) ns fl ts2 sel sv W2 := by
  refine ⟨hm.rd, h.kept.trans hm.kept fun k hk => ?_, fun k hk => hm.inc k (h.inc k hk), fun k hk => ?_, hm.box, h.far, fun hf => ?_, hm.own, fun k hk => ⟨Nat.le_trans h.kept.size (hm.sep k hk).1, (hm.sep k hk).2⟩⟩
  · rcases hk with hk | hk
    · exact h.new k hk
    · rw [hG k hk]; exact .inr h.far
  · rcases hm.new k hk with e | e
    · exact h.new k e
    · exact .inr (Nat.le_trans h.kept.size e)
  · rcases hm.new pb hf with e | e
    · exact h.out e
    · have := lt_of_block h.box; omega
/-- the end of it: add. -/
theorem CI.add {F F1 S : Nat → Prop} {w0 w : World} {b pb : Nat} {cs : Array Value} {ns ns2 : List Nd} {fl fl2 : Bool} {ts1 ts2 : List Tk} {sel : List Mat.Mt} {sv : Value} {W W2 : World} (h : CI F F1 w0 w b pb cs ns fl ts1 sel sv W) (hr : RdAdd F1 S w0 W W2 b ts2 ns2 fl2) (hS : ∀ k, S k → sv.ownBlock = some k) : RdTo F no w0 w W2 b ts2 ns2 fl2 := by
  obtain ⟨F2, r2, k2, i2, f2⟩ := hr
  refine ⟨F2, r2, (h.kept.trans k2 fun k hk => h.new k hk).mono fun k _ hk => .inl hk, fun k hk => i2 k (h.inc k hk), fun k hk => ?_⟩
  rcases f2 k hk with e | e | e
  · exact h.new k e
  · exact .inr (h.sep k (hS k e)).1
  · exact .inr (Nat.le_trans h.kept.size e)
end Go.Proofs.YtjhodmpgggaknaaGreatDoor
/- Contract of comparison: its walk. -/
namespace Go.Proofs.YtjhodmpgggaknaaGreatDoor
open Go.RowKit Go.Shelf Go.Maps

end Go.Proofs.YtjhodmpgggaknaaGreatDoor
