/- A store as the chapter tells it: files by rising names (name, bytes, how many are synced), acts, how many are left; what each call makes of it. Plain mathematics. -/
import Derived.Test.YtinnegkkfaaceaaW9
namespace Go.Proofs.Ytinnegkkfaaceaa

structure Ent where
  name : List UInt8
  b : List UInt8
  s : Nat
def Fg.e (f : Fg) : Ent := ⟨f.name, f.b, f.s⟩
def delE (n : List UInt8) (l : List Ent) : List Ent := l.filter fun f => !(f.name == n)
def insE (f : Ent) : List Ent → List Ent
  | [] => [f]
  | g :: r => if f.name < g.name then f :: g :: r else g :: insE f r
def putE (f : Ent) (l : List Ent) : List Ent := insE f (delE f.name l)
def lookE (n : List UInt8) (l : List Ent) : Option Ent := l.find? fun f => f.name == n
theorem map_ins (f : Fg) : ∀ l : List Fg, (ins f l).map Fg.e = insE f.e (l.map Fg.e)
  | [] => rfl
  | g :: r => by
    show (if f.name < g.name then f :: g :: r else g :: ins f r).map Fg.e = if f.name < g.name then _ else _
    by_cases h : f.name < g.name
    · rw [if_pos h, if_pos h]; rfl
    · rw [if_neg h, if_neg h, List.map_cons, map_ins f r]
theorem map_del (n : List UInt8) (l : List Fg) : (del n l).map Fg.e = delE n (l.map Fg.e) := by
  unfold del delE
  rw [List.filter_map]
  rfl
theorem map_put (f : Fg) (l : List Fg) : (put f l).map Fg.e = putE f.e (l.map Fg.e) := by
  unfold put putE
  rw [map_ins, map_del]
  rfl
theorem map_look (n : List UInt8) (l : List Fg) : lookE n (l.map Fg.e) = (look n l).map Fg.e := by
  unfold look lookE
  rw [List.find?_map]
  rfl
structure St where
  l : List Ent
  acts : Nat
  left : Int
def Gs.abs (g : Gs) : St := ⟨g.l.map Fg.e, g.acts, g.left⟩
def St.done (t : St) : St := { t with acts := t.acts + 1, left := if 0 < t.left then t.left - 1 else t.left }
theorem abs_done (g : Gs) : (done g).abs = g.abs.done := rfl
def St.append (t : St) (n bs : List UInt8) : Int × St :=
  if t.left = 0 then (30, t) else
  if mayB n = false then (2, t) else
  match lookE n t.l with
  | some f => if 1048576 < f.b.length + bs.length then (3, t) else (0, St.done { t with l := putE { f with b := f.b ++ bs } t.l })
  | none => if 1048576 < bs.length then (3, t) else if 64 ≤ t.l.length then (4, t) else (0, St.done { t with l := putE ⟨n, bs, 0⟩ t.l })
def St.with (t : St) (n : List UInt8) (k : Ent → Int × St) : Int × St :=
  if t.left = 0 then (30, t) else
  match lookE n t.l with
  | none => (31, t)
  | some f => k f
def St.sync (t : St) (n : List UInt8) : Int × St := t.with n fun f => (0, St.done { t with l := putE { f with s := f.b.length } t.l })
def St.truncate (t : St) (n : List UInt8) (k : Int) : Int × St := t.with n fun f => if k < 0 ∨ (f.b.length : Int) < k then (2, t) else (0, St.done { t with l := putE { f with b := f.b.take k.toNat, s := min f.s k.toNat } t.l })
def St.rename (t : St) (o n : List UInt8) : Int × St := t.with o fun f => if mayB n = false then (2, t) else (0, St.done { t with l := putE { f with name := n } (delE o t.l) })
def St.remove (t : St) (n : List UInt8) : Int × St := t.with n fun _ => (0, St.done { t with l := delE n t.l })
def St.get (t : St) (n : List UInt8) (k : Ent → Int) : Int × Int :=
  if t.left = 0 then (0, 30) else
  match lookE n t.l with
  | none => (0, 31)
  | some f => (k f, 0)

/-- how a call stands ahead of count. -/
def Pend (B sb : Nat) (w w1 : World) (g : Gs) (r : Int) (S : St) : Prop :=
  (r ≠ 0 ∧ S = g.abs ∧ Step B sb w w1 g g) ∨ (r = 0 ∧ ∃ g1, g1.abs.done = S ∧ g1.acts < 4611686018427387904 ∧ Step B sb w w1 g g1)
theorem Pend.kept {B sb : Nat} {w w1 : World} {g : Gs} {r : Int} {S : St} (h : Pend B sb w w1 g r S) : Kept (foot sb g) w w1 := by
  rcases h with ⟨_, _, h⟩ | ⟨_, g1, _, _, h⟩ <;> exact h.kept
open Go.RowKit in
theorem count_of {B sb : Nat} {w w1 : World} {g : Gs} {r : Int} {S : St} (h : Pend B sb w w1 g r S) :
    Calls Try.prog 46 #[ptr sb, .int .i64 r] w1 fun e w' => e = .returned (.int .i64 r) ∧ ∃ g', g'.abs = S ∧ Step B sb w w' g g' := by
  rcases h with ⟨h0, rfl, h⟩ | ⟨rfl, g1, h1, h2, h⟩
  · refine (count_no w1 (ptr sb) r h0).mono ?_
    rintro e w' ⟨rfl, rfl⟩
    exact ⟨rfl, g, rfl, h⟩
  · refine (count_yes w1 h.store h2).mono ?_
    rintro e w' ⟨rfl, h3, h4⟩
    refine ⟨rfl, _, by rw [abs_done, h1], h.trans ⟨h3, h4, fun k hk => .inl hk⟩⟩
end Go.Proofs.Ytinnegkkfaaceaa
