import Derived.Test.YtjhodmpgggaknaaGreatDoorZB14
/- Rows of conditions: the closure at its three strengths. -/
namespace Go.Proofs.YtjhodmpgggaknaaGreatDoor
open Go.RowKit Go.Shelf Go.Maps

/-- a loop's head in a row. -/
structure RowL (o : Bool) (lev : Lev) (F : Nat → Prop) (w0 w : World) (b rb wb : Nat) (ts : List Tk) (ns : List Nd) (fl : Bool) (root : Int) (ok : Bool) (F1 : Nat → Prop) (ts1 : List Tk) (ns1 : List Nd) (fl1 : Bool) (wr : World) : Prop where
  i : RowI F F1 w0 w wr b rb wb ts1 ns1 fl1
  bad : ok = false → pE lev (keysT ts) = none
  good : ok = true → Suf ts1 ts ∧ ∃ t, pE lev (keysT ts) = pE (.more o t) (keysT ts1) ∧ (ns1, fl1, root) = addT (ns, fl, 0) t
theorem RowL.post {o : Bool} {lev : Lev} {F : Nat → Prop} {w0 w : World} {b rb wb : Nat} {ts : List Tk} {ns : List Nd} {fl : Bool} {root : Int} {F1 : Nat → Prop} {ts1 : List Tk} {ns1 : List Nd} {fl1 : Bool} {wr : World} (h : RowL o lev F w0 w b rb wb ts ns fl root true F1 ts1 ns1 fl1 wr) (hs : hd (opKey o) ts1 = false) {F2 : Nat → Prop} {w2 : World} (h2 : RowI F F2 w0 w w2 b rb wb ts1 ns1 fl1) : RowPost lev F w0 w b ts ns fl (.returned (.tuple #[.int .i64 root, .bool true])) w2 := by
  obtain ⟨hs1, t, h3, h4⟩ := h.good rfl
  refine ⟨ts1, root, true, rfl, (fun e => by cases e), fun _ => ⟨t, ?_, hs1, by rw [← h4]; exact h2.to, by rw [← h4]⟩⟩
  rw [h3]
  cases hk : keysT ts1 with
  | nil => rfl
  | cons x r => exact pE_stop fun e => hd_not hs r (by rw [hk, e])
theorem RowL.fail {o : Bool} {lev : Lev} {F : Nat → Prop} {w0 w : World} {b rb wb : Nat} {ts : List Tk} {ns : List Nd} {fl : Bool} {root : Int} {F1 : Nat → Prop} {ts1 : List Tk} {ns1 : List Nd} {fl1 : Bool} {wr : World} (h : RowL o lev F w0 w b rb wb ts ns fl root false F1 ts1 ns1 fl1 wr) {w2 : World} (hb : Below wr.heap.size wr w2) : RowPost lev F w0 w b ts ns fl (.returned (.tuple #[.int .i64 root, .bool false])) w2 :=
  ⟨ts1, root, false, rfl, fun _ => ⟨⟨_, _, h.i.ch _ _ _ _ (h.i.rd.later no hb)⟩, h.bad rfl⟩, fun e => by cases e⟩
theorem RowI.below {F F1 : Nat → Prop} {w0 w w1 w2 : World} {b rb wb : Nat} {ts : List Tk} {ns : List Nd} {fl : Bool} (h : RowI F F1 w0 w w1 b rb wb ts ns fl) (hb : Below w1.heap.size w1 w2) : ∃ F2, RowI F F2 w0 w w2 b rb wb ts ns fl := h.call (h.rd.later no hb)
end Go.Proofs.YtjhodmpgggaknaaGreatDoor
