/- Joined: SPlain SMem SW1 SW2 SW3 SMem2. -/
import GoSem.Core.Value
import Derived.Test.YtihgikekkgoddaaGreatDoorProg
import Derived.Maps.OwnSet
import Derived.Maps.AppendAt
import Derived.Below
import Derived.WalkKit
import Derived.Deep.QuietTactic
import Derived.BigQuiet
import Derived.WalkLawsBesides
import Derived.WalkSpells
import Derived.Shelf.Abstract
/- Plain mathematics of a store of files: a list of files by rising names; a file put in its place, taken away, looked for. Nothing of the program. -/
namespace Go.Proofs.YtihgikekkgoddaaGreatDoor.Sto

/-- a file: its name, its bytes, how many are synced; where it lies: its block, its bytes' slice. -/
structure Fg where
  name : List UInt8
  b : List UInt8
  s : Nat
  fb : Nat
  v : Value

def del (n : List UInt8) (l : List Fg) : List Fg := l.filter fun f => !(f.name == n)
def ins (f : Fg) : List Fg → List Fg
  | [] => [f]
  | g :: r => if f.name < g.name then f :: g :: r else g :: ins f r
def put (f : Fg) (l : List Fg) : List Fg := ins f (del f.name l)
def look (n : List UInt8) (l : List Fg) : Option Fg := l.find? fun f => f.name == n
def Rising (l : List Fg) : Prop := l.Pairwise fun f g => f.name < g.name

theorem mem_ins (f x : Fg) : ∀ l : List Fg, x ∈ ins f l ↔ x = f ∨ x ∈ l
  | [] => by simp [ins]
  | g :: r => by
    unfold ins
    split
    · simp
    · simp [mem_ins f x r]; constructor
      · rintro (h | h | h) <;> simp [h]
      · rintro (h | h | h) <;> simp [h]
theorem mem_del {n : List UInt8} {l : List Fg} {x : Fg} : x ∈ del n l ↔ x ∈ l ∧ x.name ≠ n := by
  simp [del]
theorem mem_put {f x : Fg} {l : List Fg} : x ∈ put f l ↔ x = f ∨ (x ∈ l ∧ x.name ≠ f.name) := by
  simp [put, mem_ins, mem_del]
theorem length_ins (f : Fg) : ∀ l : List Fg, (ins f l).length = l.length + 1
  | [] => rfl
  | g :: r => by
    unfold ins
    split
    · rfl
    · simp [length_ins f r]
theorem lt_trans {a b c : List UInt8} (h : a < b) (k : b < c) : a < c := List.lt_trans h k
theorem lt_irrefl (a : List UInt8) : ¬ a < a := List.lt_irrefl a
theorem lt_of_not {a b : List UInt8} (h : ¬ a < b) (hne : a ≠ b) : b < a := by
  have h1 : b ≤ a := List.not_lt.1 h
  rcases List.le_iff_lt_or_eq.1 h1 with h2 | h2
  · exact h2
  · exact absurd h2.symm hne
theorem rising_ins {f : Fg} : ∀ {l : List Fg}, Rising l → (∀ g ∈ l, g.name ≠ f.name) → Rising (ins f l)
  | [], _, _ => by simp [ins, Rising]
  | g :: r, h, hn => by
    have h' := List.pairwise_cons.1 h
    unfold ins
    split
    · rename_i hlt
      refine List.pairwise_cons.2 ⟨fun x hx => ?_, h⟩
      rcases List.mem_cons.1 hx with rfl | hx
      · exact hlt
      · exact lt_trans hlt (h'.1 x hx)
    · rename_i hlt
      refine List.pairwise_cons.2 ⟨fun x hx => ?_, rising_ins h'.2 fun y hy => hn y (List.mem_cons_of_mem _ hy)⟩
      rcases (mem_ins f x r).1 hx with rfl | hx
      · exact lt_of_not hlt fun e => hn g List.mem_cons_self e.symm
      · exact h'.1 x hx
theorem rising_del {n : List UInt8} {l : List Fg} (h : Rising l) : Rising (del n l) := List.Pairwise.filter _ h
theorem rising_put {f : Fg} {l : List Fg} (h : Rising l) : Rising (put f l) :=
  rising_ins (rising_del h) fun _ hg => (mem_del.1 hg).2
theorem look_some {n : List UInt8} {l : List Fg} {f : Fg} (h : look n l = some f) : f ∈ l ∧ f.name = n := by
  unfold look at h
  exact ⟨List.mem_of_find?_eq_some h, by simpa using List.find?_some h⟩
theorem look_none {n : List UInt8} {l : List Fg} (h : look n l = none) : ∀ f ∈ l, f.name ≠ n := by
  unfold look at h
  intro f hf e
  have := List.find?_eq_none.1 h f hf
  simp [e] at this
/-- a name is one file's alone. -/
theorem name_one {l : List Fg} (h : Rising l) : ∀ {f g : Fg}, f ∈ l → g ∈ l → f.name = g.name → f = g := by
  induction l with
  | nil => intro f g hf; cases hf
  | cons x r ih =>
    have h' := List.pairwise_cons.1 h
    intro f g hf hg e
    rcases List.mem_cons.1 hf with a | hf' <;> rcases List.mem_cons.1 hg with b | hg'
    · rw [a, b]
    · exact absurd (h'.1 g hg') (by rw [← e, a]; exact lt_irrefl _)
    · exact absurd (h'.1 f hf') (by rw [e, b]; exact lt_irrefl _)
    · exact ih h'.2 hf' hg' e
theorem look_of_mem {l : List Fg} (h : Rising l) {f : Fg} (hf : f ∈ l) : look f.name l = some f := by
  cases hl : look f.name l with
  | none => exact absurd rfl (look_none hl f hf)
  | some g => obtain ⟨h1, h2⟩ := look_some hl; rw [name_one h h1 hf h2]
theorem look_of_not {n : List UInt8} {l : List Fg} (h : ∀ f ∈ l, f.name ≠ n) : look n l = none := by
  cases hl : look n l with
  | none => rfl
  | some g => obtain ⟨h1, h2⟩ := look_some hl; exact absurd h2 (h g h1)
theorem del_of_not {n : List UInt8} {l : List Fg} (h : ∀ f ∈ l, f.name ≠ n) : del n l = l := by
  unfold del
  rw [List.filter_eq_self]
  intro f hf
  simp [h f hf]
theorem length_del {n : List UInt8} : ∀ {l : List Fg}, Rising l → ∀ {f : Fg}, f ∈ l → f.name = n → (del n l).length + 1 = l.length
  | [], _, _, hf, _ => by cases hf
  | x :: r, h, f, hf, e => by
    have h' := List.pairwise_cons.1 h
    by_cases hx : x.name = n
    · have : ∀ y ∈ r, y.name ≠ n := fun y hy e' => by have := h'.1 y hy; rw [hx, e'] at this; exact lt_irrefl _ this
      have hd := del_of_not this
      have : del n (x :: r) = del n r := by simp [del, hx]
      rw [this, hd]; simp
    · rcases List.mem_cons.1 hf with rfl | hf
      · exact absurd e hx
      · have := length_del h'.2 hf e
        have h2 : del n (x :: r) = x :: del n r := by simp [del, hx]
        rw [h2]; simp; omega
theorem length_put_new {f : Fg} {l : List Fg} (h : look f.name l = none) : (put f l).length = l.length + 1 := by
  unfold put; rw [length_ins, del_of_not (look_none h)]
theorem length_put_old {f g : Fg} {l : List Fg} (hr : Rising l) (h : look f.name l = some g) : (put f l).length = l.length := by
  obtain ⟨h1, h2⟩ := look_some h
  unfold put; rw [length_ins, length_del hr h1 h2]
/-- two rising lists with the same files are one. -/
theorem rising_ext : ∀ {l l' : List Fg}, Rising l → Rising l' → (∀ f, f ∈ l ↔ f ∈ l') → l = l'
  | [], [], _, _, _ => rfl
  | [], y :: r, _, _, h => by have := (h y).2 List.mem_cons_self; cases this
  | x :: r, [], _, _, h => by have := (h x).1 List.mem_cons_self; cases this
  | x :: r, y :: q, h1, h2, h => by
    have a := List.pairwise_cons.1 h1
    have b := List.pairwise_cons.1 h2
    have e : x = y := by
      rcases List.mem_cons.1 ((h x).1 List.mem_cons_self) with e | hx
      · exact e
      · rcases List.mem_cons.1 ((h y).2 List.mem_cons_self) with e | hy
        · exact e.symm
        · exact absurd (lt_trans (a.1 y hy) (b.1 x hx)) (lt_irrefl _)
    subst e
    congr 1
    refine rising_ext a.2 b.2 fun f => ?_
    constructor
    · intro hf
      rcases List.mem_cons.1 ((h f).1 (List.mem_cons_of_mem _ hf)) with e | hq
      · subst e; exact absurd (a.1 f hf) (lt_irrefl _)
      · exact hq
    · intro hf
      rcases List.mem_cons.1 ((h f).2 (List.mem_cons_of_mem _ hf)) with e | hq
      · subst e; exact absurd (b.1 f hf) (lt_irrefl _)
      · exact hq
end Go.Proofs.YtihgikekkgoddaaGreatDoor.Sto
/- How a store of files lies in memory: the struct, the map of names, each file's struct, each file's row of bytes; what stays when they stay; what a call may turn. -/
namespace Go.Proofs.YtihgikekkgoddaaGreatDoor.Sto
open Go.RowKit Go.Maps Go.MapKept

theorem hid {p : Prop} (h : p) : Hid p := h
def bv (c : UInt8) : Value := .int .u8 (c.toNat : Int)
def str (n : List UInt8) : Value := .string ⟨n.toArray⟩
def ptr (b : Nat) : Value := .pointer (some ⟨b, 0, none⟩)
/-- what became of memory: outside F all that lay lies as it did. -/
structure Kept (F : Nat → Prop) (w w' : World) : Prop where
  os : w'.os = w.os
  tape : w'.tape = w.tape
  output : w'.output = w.output
  size : w.heap.size ≤ w'.heap.size
  block : ∀ k, k < w.heap.size → ¬ F k → w'.heap[k]? = w.heap[k]?
theorem Kept.refl (F : Nat → Prop) (w : World) : Kept F w w := ⟨rfl, rfl, rfl, Nat.le_refl _, fun _ _ _ => rfl⟩
theorem Kept.trans {F F' : Nat → Prop} {a b c : World} (h : Kept F a b) (k : Kept F' b c) (hF : ∀ k, F' k → F k ∨ a.heap.size ≤ k) : Kept F a c :=
  ⟨k.os.trans h.os, k.tape.trans h.tape, k.output.trans h.output, Nat.le_trans h.size k.size, fun i hi hn => (k.block i (Nat.lt_of_lt_of_le hi h.size) (fun hf => (hF i hf).elim hn (by omega))).trans (h.block i hi hn)⟩
theorem Kept.mono {F F' : Nat → Prop} {a b : World} (h : Kept F a b) (hF : ∀ k, k < a.heap.size → F k → F' k) : Kept F' a b :=
  ⟨h.os, h.tape, h.output, h.size, fun i hi hn => h.block i hi fun hf => hn (hF i hi hf)⟩
theorem Kept.below {F : Nat → Prop} {a b : World} (h : Kept F a b) {B : Nat} (hB : B ≤ a.heap.size) (hF : ∀ k, F k → B ≤ k) : Below B a b :=
  ⟨h.os, h.tape, h.output, h.size, fun i hi => h.block i (by omega) fun hf => by have := hF i hf; omega⟩
theorem kept_of_below {F : Nat → Prop} {a b : World} (h : Below a.heap.size a b) : Kept F a b :=
  ⟨h.os, h.tape, h.output, h.size, fun i hi _ => h.block i hi⟩
theorem kept_of_grown {F : Nat → Prop} {a b : World} {row : Option Nat} (h : a.grownBy b row) (hr : ∀ k, row = some k → F k) : Kept F a b :=
  ⟨h.os, h.tape, h.output, h.size, fun i hi hn => h.block i hi fun e => hn (hr i e.symm)⟩
theorem heap_set (w : World) (b o : Nat) (v : Value) (k : Nat) (h : k ≠ b) : (w.setCell ⟨b, o, none⟩ v).heap[k]? = w.heap[k]? := by
  simp [World.setCell, Array.getElem?_modify, Ne.symm h]
theorem heap_set_at {w : World} {b o : Nat} {c : Array Value} {t : TypeId} {fz : Nat × Nat} (h : w.heap[b]? = some (.cells c t fz)) (v : Value) : (w.setCell ⟨b, o, none⟩ v).heap[b]? = some (.cells (c.setIfInBounds o v) t fz) := by
  simp [World.setCell, Array.getElem?_modify, h]
theorem size_set (w : World) (a : Addr) (v : Value) : (w.setCell a v).heap.size = w.heap.size := by
  simp [World.setCell]
theorem kept_set {F : Nat → Prop} (w : World) (b o : Nat) (v : Value) (hb : F b) : Kept F w (w.setCell ⟨b, o, none⟩ v) :=
  ⟨rfl, rfl, rfl, by rw [size_set]; exact Nat.le_refl _, fun k _ hn => heap_set w b o v k fun e => hn (e ▸ hb)⟩
theorem cell_of {w : World} {b : Nat} {c : Array Value} {t : TypeId} (h : w.heap[b]? = some (.cells c t)) (o : Nat) : w.cell? ⟨b, o, none⟩ = c[o]? := by
  simp [World.cell?, h]
theorem frozen_of {w : World} {b : Nat} {c : Array Value} {t : TypeId} (h : w.heap[b]? = some (.cells c t)) (o : Nat) : w.frozen? ⟨b, o, none⟩ = false := by
  simp [World.frozen?, h]
theorem lt_of_block {w : World} {b : Nat} {o : Obj} (h : w.heap[b]? = some o) : b < w.heap.size := (Array.getElem?_eq_some_iff.1 h).1

/-- how the map's elements read: a file's block. -/
def ptrR : Value → Option (DataW Unit × List MemPlace)
  | .pointer none => some (.nil, [])
  | .pointer (some ⟨b, 0, none⟩) => some (.lit (.int .i64 b), [])
  | _ => none
theorem ptrR_inv {v : Value} {b : Nat} {ps : List MemPlace} (h : ptrR v = some (.lit (.int .i64 b), ps)) : v = ptr b := by
  unfold ptrR at h
  split at h
  · simp at h
  · simp at h; have e := Int.ofNat_inj.1 h.1; rw [e]; rfl
  · cases h
theorem ptrR_nil {v : Value} {ps : List MemPlace} (h : ptrR v = some (.nil, ps)) : v = .pointer none := by
  unfold ptrR at h
  split at h
  · rfl
  · simp at h
  · cases h
theorem law : Keyed Tryz.prog 9 := string_keyed Tryz.underlying9
theorem keyAt (n : List UInt8) (h : n.length ≤ maxLen) : keyOf Tryz.prog 9 (str n) = some (.string n) := by
  have := Go.WideMaps.keyOf_string_mk Tryz.underlying9 (s := ⟨n.toArray⟩) (by show n.toArray.size ≤ maxLen; simpa using h)
  simpa [str] using this
theorem zeroP (w : World) : (zeroValue 78).run Tryz.prog w = .ok (.pointer none) w := by kernel_rfl

/-- the map's datum and the list of files. -/
structure MapOf (D : DataW Unit) (l : List Fg) : Prop where
  at_ : ∀ f ∈ l, ∀ z, D.atKey (.string f.name) z = .lit (.int .i64 f.fb)
  no : ∀ n, (∀ f ∈ l, f.name ≠ n) → Maps.has D (.string n) = false
  size : Maps.size D = l.length
theorem MapOf.has {D : DataW Unit} {l : List Fg} (h : MapOf D l) {f : Fg} (hf : f ∈ l) : Maps.has D (.string f.name) = true :=
  Maps.has_true_of_atKey (h.at_ f hf)
theorem MapOf.zero {D : DataW Unit} {l : List Fg} (h : MapOf D l) {n : List UInt8} (hn : ∀ f ∈ l, f.name ≠ n) (z : DataW Unit) : D.atKey (.string n) z = z :=
  Maps.atKey_of_not_has (h.no n hn) z
theorem isKeyS (n : List UInt8) : WideAt.IsKeyLit (.string n) := trivial
theorem MapOf.put {D : DataW Unit} {l : List Fg} (h : MapOf D l) (hr : Rising l) (hm : Maps.Tidy D) (f : Fg) : MapOf (D.put (.string f.name) (.lit (.int .i64 f.fb))) (put f l) := by
  refine ⟨fun x hx z => ?_, fun n hn => ?_, ?_⟩
  · rcases mem_put.1 hx with rfl | ⟨hx, hne⟩
    · exact Maps.atKey_put_same hm.isMap (isKeyS _) _ z
    · rw [Maps.atKey_put_other (by simpa using hne)]; exact h.at_ x hx z
  · have h1 : f.name ≠ n := hn f (mem_put.2 (.inl rfl))
    rw [Maps.has_put_other (by simpa using Ne.symm h1)]
    refine h.no n fun x hx e => ?_
    by_cases hxf : x.name = f.name
    · exact h1 (hxf ▸ e)
    · exact hn x (mem_put.2 (.inr ⟨hx, hxf⟩)) e
  · rw [Maps.size_put hm, h.size]
    cases hl : look f.name l with
    | none => rw [h.no f.name (look_none hl), length_put_new hl]; simp
    | some g =>
      obtain ⟨g1, g2⟩ := look_some hl
      have := h.has g1
      rw [g2] at this
      rw [this, length_put_old hr hl]; simp
theorem MapOf.del {D : DataW Unit} {l : List Fg} (h : MapOf D l) (hr : Rising l) (hm : Maps.Tidy D) {f : Fg} (hf : f ∈ l) : MapOf (D.del (.string f.name)) (del f.name l) := by
  refine ⟨fun x hx z => ?_, fun n hn => ?_, ?_⟩
  · obtain ⟨hx, hne⟩ := mem_del.1 hx
    rw [Maps.atKey_del_other (by simpa using hne)]; exact h.at_ x hx z
  · by_cases h1 : n = f.name
    · subst h1; exact Maps.has_del_same
    · rw [Maps.has_del_other (by simpa using h1)]
      exact h.no n fun x hx e => hn x (mem_del.2 ⟨hx, fun e' => h1 (e ▸ e')⟩) e
  · have h1 := Maps.size_del (k := .string f.name) hm
    rw [h.has hf, h.size] at h1
    have h2 := length_del hr hf rfl
    simp at h1
    omega

/-- a file in memory. -/
structure FileAt (w : World) (f : Fg) : Prop where
  cell : w.heap[f.fb]? = some (.cells #[f.v, .int .i64 (f.s : Int)] 80)
  row : w.ownsRow 0 5 1 f.v f.b.length (f.b.map bv)
  syn : f.s ≤ f.b.length
  big : f.b.length ≤ 1048576
  nm : 1 ≤ f.name.length ∧ f.name.length ≤ 32
/-- a store: where its map lies, its files, how many acts were done, how many are left. -/
structure Gs where
  mb : Nat
  l : List Fg
  acts : Nat
  left : Int
def footF (f : Fg) (k : Nat) : Prop := k = f.fb ∨ f.v.ownBlock = some k
def foot (sb : Nat) (g : Gs) (k : Nat) : Prop := k = sb ∨ k = g.mb ∨ ∃ f ∈ g.l, footF f k
structure StoreAt (B : Nat) (w : World) (sb : Nat) (g : Gs) : Prop where
  cell : w.heap[sb]? = some (.cells #[.map (some g.mb), .int .i64 (g.acts : Int), .int .i64 g.left] 31)
  map : ∃ D, w.ownsMap Tryz.prog 9 ptrR g.mb g.l.length D ∧ MapOf D g.l
  files : ∀ f ∈ g.l, FileAt w f
  apart : ∀ f ∈ g.l, ∀ h ∈ g.l, f.name ≠ h.name → f.fb ≠ h.fb ∧ ∀ k, f.v.ownBlock = some k → h.v.ownBlock ≠ some k
  rising : Rising g.l
  few : g.l.length ≤ 64
  base : ∀ k, foot sb g k → B ≤ k
  leftb : -9223372036854775808 ≤ g.left ∧ g.left ≤ 9223372036854775807

theorem ownsMap_size {w : World} {b n : Nat} {D : DataW Unit} (h : w.ownsMap Tryz.prog 9 ptrR b n D) : w.ownsMap Tryz.prog 9 ptrR b (Maps.size D) D := by
  obtain ⟨es, clock, hb, F, hs, rfl⟩ := h
  exact ⟨es, clock, hb, F, by simp [Maps.size, length_sorted], rfl⟩
theorem ownsMap_block {w w' : World} {b n : Nat} {D : DataW Unit} (h : w.ownsMap Tryz.prog 9 ptrR b n D) (hb : w'.heap[b]? = w.heap[b]?) : w'.ownsMap Tryz.prog 9 ptrR b n D := by
  obtain ⟨es, clock, h1, F, hs, hD⟩ := h
  exact ⟨es, clock, hb.trans h1, F, hs, hD⟩
theorem ownsRow_block {w w' : World} {base : Nat} {e : TypeId} {s : Nat} {v : Value} {n : Nat} {xs : List Value} (h : w.ownsRow base e s v n xs) (hb : ∀ k, v.ownBlock = some k → w'.heap[k]? = w.heap[k]?) : w'.ownsRow base e s v n xs := by
  refine ⟨h.1, ?_⟩
  rcases h.2 with hn | ⟨g, cap, cur, rfl, h1, h2, rest⟩
  · exact .inl hn
  · exact .inr ⟨g, cap, cur, rfl, h1, (hb g rfl).trans h2, rest⟩
theorem FileAt.keep {w w' : World} {f : Fg} (h : FileAt w f) (hb : ∀ k, footF f k → w'.heap[k]? = w.heap[k]?) : FileAt w' f :=
  ⟨(hb _ (.inl rfl)).trans h.cell, ownsRow_block h.row fun k hk => hb k (.inr hk), h.syn, h.big, h.nm⟩
theorem StoreAt.keep {B sb : Nat} {w w' : World} {g : Gs} (h : StoreAt B w sb g) (hb : ∀ k, foot sb g k → w'.heap[k]? = w.heap[k]?) : StoreAt B w' sb g := by
  obtain ⟨D, hD, hM⟩ := h.map
  exact ⟨(hb _ (.inl rfl)).trans h.cell, ⟨D, ownsMap_block hD (hb _ (.inr (.inl rfl))), hM⟩, fun f hf => (h.files f hf).keep fun k hk => hb k (.inr (.inr ⟨f, hf, hk⟩)), h.apart, h.rising, h.few, h.base, h.leftb⟩
theorem FileAt.lt {w : World} {f : Fg} (h : FileAt w f) {k : Nat} (hk : footF f k) : k < w.heap.size := by
  rcases hk with rfl | hk
  · exact lt_of_block h.cell
  · exact (h.row.lt k hk).2
theorem StoreAt.lt {B sb : Nat} {w : World} {g : Gs} (h : StoreAt B w sb g) {k : Nat} (hk : foot sb g k) : k < w.heap.size := by
  rcases hk with rfl | rfl | ⟨f, hf, hk⟩
  · exact lt_of_block h.cell
  · obtain ⟨D, hD, _⟩ := h.map; exact hD.lt
  · exact (h.files f hf).lt hk
theorem StoreAt.below {B sb : Nat} {w w' : World} {g : Gs} (h : StoreAt B w sb g) (hb : Below w.heap.size w w') : StoreAt B w' sb g :=
  h.keep fun k hk => hb.block k (h.lt hk)
theorem StoreAt.lower {B B' sb : Nat} {w : World} {g : Gs} (h : StoreAt B w sb g) (hB : B' ≤ B) : StoreAt B' w sb g :=
  ⟨h.cell, h.map, h.files, h.apart, h.rising, h.few, fun k hk => Nat.le_trans hB (h.base k hk), h.leftb⟩
/-- blocks of unlike kinds are unlike. -/
theorem row_block {w : World} {f : Fg} (h : FileAt w f) {k : Nat} (hk : f.v.ownBlock = some k) : ∃ c, w.heap[k]? = some (.cells c 5) := by
  rcases h.row.2 with ⟨e, _⟩ | ⟨g, cap, cur, e, _, h2, _⟩
  · rw [e] at hk; cases hk
  · rw [e] at hk; cases hk; exact ⟨cur, h2⟩
theorem map_block {w : World} {b n : Nat} {D : DataW Unit} (h : w.ownsMap Tryz.prog 9 ptrR b n D) : ∃ es c, w.heap[b]? = some (.map es c) := by
  obtain ⟨es, clock, h1, _⟩ := h
  exact ⟨es, clock, h1⟩
theorem StoreAt.sb_mb {B sb : Nat} {w : World} {g : Gs} (h : StoreAt B w sb g) : sb ≠ g.mb := by
  obtain ⟨D, hD, _⟩ := h.map
  obtain ⟨es, c, h1⟩ := map_block hD
  intro e; have := h.cell; rw [e, h1] at this; cases this
theorem StoreAt.sb_f {B sb : Nat} {w : World} {g : Gs} (h : StoreAt B w sb g) {f : Fg} (hf : f ∈ g.l) {k : Nat} (hk : footF f k) : k ≠ sb := by
  intro e; subst e
  have h0 := h.cell
  rcases hk with rfl | hk
  · rw [(h.files f hf).cell] at h0; simp at h0
  · obtain ⟨c, h1⟩ := row_block (h.files f hf) hk; rw [h1] at h0; simp at h0
theorem StoreAt.mb_f {B sb : Nat} {w : World} {g : Gs} (h : StoreAt B w sb g) {f : Fg} (hf : f ∈ g.l) {k : Nat} (hk : footF f k) : k ≠ g.mb := by
  obtain ⟨D, hD, _⟩ := h.map
  obtain ⟨es, c, h1⟩ := map_block hD
  intro e
  rcases hk with hk | hk
  · rw [← e, hk, (h.files f hf).cell] at h1; cases h1
  · obtain ⟨c', h2⟩ := row_block (h.files f hf) hk; rw [← e, h2] at h1; cases h1
theorem FileAt.fb_row {w : World} {f h : Fg} (a : FileAt w f) (b : FileAt w h) {k : Nat} (hk : f.v.ownBlock = some k) : k ≠ h.fb := by
  obtain ⟨c, h1⟩ := row_block a hk
  intro e; subst e; rw [b.cell] at h1; simp at h1
/-- unlike files share no block. -/
theorem StoreAt.two {B sb : Nat} {w : World} {g : Gs} (h : StoreAt B w sb g) {f x : Fg} (hf : f ∈ g.l) (hx : x ∈ g.l) (hne : f.name ≠ x.name) {k : Nat} (h1 : footF f k) (h2 : footF x k) : False := by
  obtain ⟨a1, a2⟩ := h.apart f hf x hx hne
  rcases h1 with rfl | h1 <;> rcases h2 with h2 | h2
  · exact a1 h2
  · exact (h.files x hx).fb_row (h.files f hf) h2 rfl
  · exact (h.files f hf).fb_row (h.files x hx) h1 h2
  · exact a2 k h1 h2
end Go.Proofs.YtihgikekkgoddaaGreatDoor.Sto
/- Contracts of the store's small functions: made, Dead, Acts, Power, count, mayBe. -/
namespace Go.Proofs.YtihgikekkgoddaaGreatDoor.Sto
open Go.RowKit Go.Maps
theorem neqMap (m : Option Nat) (w : World) : (binOp .neq 29 (.map m) (.map none)).run Tryz.prog w = .ok (.bool (!m.isNone)) w := run_neq_map_nil w 29 9 78 m Tryz.underlying29

set_option maxHeartbeats 400000 in
theorem made_yes {B sb : Nat} {g : Gs} (w : World) (h : StoreAt B w sb g) :
    Calls Tryz.prog 44 #[ptr sb] w fun e w' => e = .returned (.bool true) ∧ w' = w := by
  have c0 : w.cell? ⟨sb, 0, none⟩ = some (.map (some g.mb)) := by rw [cell_of h.cell]; rfl
  unfold ptr
  clear h
  have hn := neqMap
  go_enter Tryz.func44, Tryz.ntmps44
  go_wp2
  go_ret
  exact ⟨rfl, rfl⟩
set_option maxHeartbeats 400000 in
theorem made_nil (w : World) :
    Calls Tryz.prog 44 #[.pointer none] w fun e w' => e = .returned (.bool false) ∧ w' = w := by
  go_enter Tryz.func44, Tryz.ntmps44
  go_wp2
  go_ret
  exact ⟨rfl, rfl⟩
set_option maxHeartbeats 400000 in
theorem made_no (w : World) (a : Addr) (h : w.cell? a = some (.map none)) :
    Calls Tryz.prog 44 #[.pointer (some a)] w fun e w' => e = .returned (.bool false) ∧ w' = w := by
  obtain ⟨b, o, sp⟩ := a
  obtain rfl : sp = none := by simpa using World.cell?_spot h
  have hn := neqMap
  go_enter Tryz.func44, Tryz.ntmps44
  go_wp2
  go_ret
  exact ⟨rfl, rfl⟩
set_option maxHeartbeats 400000 in
theorem dead_any {B sb : Nat} {g : Gs} (w : World) (h : StoreAt B w sb g) :
    Calls Tryz.prog 17 #[ptr sb] w fun e w' => e = .returned (.bool (g.left == 0)) ∧ w' = w := by
  have hm := hid (made_yes w h)
  have c2 : w.cell? ⟨sb, 2, none⟩ = some (.int .i64 g.left) := by rw [cell_of h.cell]; rfl
  unfold ptr at hm ⊢
  clear h
  go_enter Tryz.func17, Tryz.ntmps17
  go_wp2_with (go_at_call 44; refine hm.out.mono ?_; rintro e w' ⟨rfl, rfl⟩)
  go_ret
  exact ⟨rfl, rfl⟩
theorem StoreAt.left {B sb : Nat} {g : Gs} {w : World} (h : StoreAt B w sb g) (x : Int) (hx : -9223372036854775808 ≤ x ∧ x ≤ 9223372036854775807) : StoreAt B (w.setCell ⟨sb, 2, none⟩ (.int .i64 x)) sb { g with left := x } := by
  have hs : ∀ k, k ≠ sb → (w.setCell ⟨sb, 2, none⟩ (.int .i64 x)).heap[k]? = w.heap[k]? := fun k hk => heap_set w sb 2 _ k hk
  obtain ⟨D, hD, hM⟩ := h.map
  exact ⟨by rw [heap_set_at h.cell]; rfl, ⟨D, ownsMap_block hD (hs _ h.sb_mb.symm), hM⟩, fun f hf => (h.files f hf).keep fun k hk => hs k (h.sb_f hf hk), h.apart, h.rising, h.few, h.base, hx⟩
theorem StoreAt.act {B sb : Nat} {g : Gs} {w : World} (h : StoreAt B w sb g) (x : Nat) : StoreAt B (w.setCell ⟨sb, 1, none⟩ (.int .i64 x)) sb { g with acts := x } := by
  have hs : ∀ k, k ≠ sb → (w.setCell ⟨sb, 1, none⟩ (.int .i64 x)).heap[k]? = w.heap[k]? := fun k hk => heap_set w sb 1 _ k hk
  obtain ⟨D, hD, hM⟩ := h.map
  exact ⟨by rw [heap_set_at h.cell]; rfl, ⟨D, ownsMap_block hD (hs _ h.sb_mb.symm), hM⟩, fun f hf => (h.files f hf).keep fun k hk => hs k (h.sb_f hf hk), h.apart, h.rising, h.few, h.base, h.leftb⟩
set_option maxHeartbeats 400000 in
theorem power_any {B sb : Nat} {g : Gs} (w : World) (h : StoreAt B w sb g) (x : Int) (hx : -9223372036854775808 ≤ x ∧ x ≤ 9223372036854775807) :
    Calls Tryz.prog 16 #[ptr sb, .int .i64 x] w fun e w' => e = .returned (.tuple #[]) ∧ StoreAt B w' sb { g with left := x } ∧ Kept (foot sb g) w w' := by
  have hm := hid (made_yes w h)
  have fz : w.frozen? ⟨sb, 2, none⟩ = false := frozen_of h.cell 2
  have c2 : w.cell? ⟨sb, 2, none⟩ = some (.int .i64 g.left) := by rw [cell_of h.cell]; rfl
  have hh := hid (h.left x hx)
  have hk := hid (kept_set (F := foot sb g) w sb 2 (.int .i64 x) (.inl rfl))
  unfold ptr at hm ⊢
  clear h hx
  go_enter Tryz.func16, Tryz.ntmps16
  go_wp2_with (go_at_call 44; refine hm.out.mono ?_; rintro e w' ⟨rfl, rfl⟩)
  go_end0
  exact ⟨rfl, hh.out, hk.out⟩
/-- one more act. -/
def done (g : Gs) : Gs := { g with acts := g.acts + 1, left := if 0 < g.left then g.left - 1 else g.left }
set_option maxHeartbeats 400000 in
theorem count_no (w : World) (a : Value) (x : Int) (hx : x ≠ 0) :
    Calls Tryz.prog 60 #[a, .int .i64 x] w fun e w' => e = .returned (.int .i64 x) ∧ w' = w := by
  have hx' : (x == 0) = false := by simpa using hx
  go_enter Tryz.func60, Tryz.ntmps60
  go_wp2
  go_ret
  exact ⟨rfl, rfl⟩
set_option maxHeartbeats 400000 in
theorem count_yes {B sb : Nat} {g : Gs} (w : World) (h : StoreAt B w sb g) (ha : g.acts < 4611686018427387904) :
    Calls Tryz.prog 60 #[ptr sb, .int .i64 0] w fun e w' => e = .returned (.int .i64 0) ∧ StoreAt B w' sb (done g) ∧ Kept (foot sb g) w w' := by
  have f1 : w.frozen? ⟨sb, 1, none⟩ = false := frozen_of h.cell 1
  have f2 : w.frozen? ⟨sb, 2, none⟩ = false := frozen_of h.cell 2
  have c1 : w.cell? ⟨sb, 1, none⟩ = some (.int .i64 (g.acts : Int)) := by rw [cell_of h.cell]; rfl
  have c2 : w.cell? ⟨sb, 2, none⟩ = some (.int .i64 g.left) := by rw [cell_of h.cell]; rfl
  have hl := h.leftb
  have hh := hid h
  unfold ptr
  clear h
  obtain ⟨mb, l, acts, left⟩ := g
  simp only at c1 c2 hl ha
  by_cases hp : 0 < left
  · go_enter Tryz.func60, Tryz.ntmps60
    go_wp2
    go_ret
    refine ⟨rfl, ?_, ?_⟩
    · have := (hh.out.act (acts + 1)).left (left - 1) (by omega)
      simpa [done, hp] using this
    · exact (kept_set (F := foot sb ⟨mb, l, acts, left⟩) w sb 1 _ (.inl rfl)).trans (kept_set (F := foot sb ⟨mb, l, acts, left⟩) _ sb 2 _ (.inl rfl)) fun k hk => .inl hk
  · go_enter Tryz.func60, Tryz.ntmps60
    go_wp2
    go_ret
    refine ⟨rfl, ?_, ?_⟩
    · have := hh.out.act (acts + 1)
      rw [show done ⟨mb, l, acts, left⟩ = ⟨mb, l, acts + 1, left⟩ by simp only [done]; rw [if_neg (by omega)]]
      simpa using this
    · exact kept_set (F := foot sb ⟨mb, l, acts, left⟩) w sb 1 _ (.inl rfl)
def mayB (n : List UInt8) : Bool := decide (1 ≤ n.length ∧ n.length ≤ 32)
set_option maxHeartbeats 400000 in
theorem mayBe_any (w : World) (n : List UInt8) (hn : n.length ≤ 4294967296) :
    Calls Tryz.prog 63 #[str n] w fun e w' => e = .returned (.bool (mayB n)) ∧ w' = w := by
  have hs : (⟨n.toArray⟩ : ByteArray).size = n.length := by show n.toArray.size = _; simp
  unfold str
  by_cases h1 : 1 ≤ n.length
  · by_cases h2 : n.length ≤ 32
    · have e : mayB n = true := by simp [mayB, h1, h2]
      have E := hid e; clear e
      have h2' : decide ((n.length : Int) ≤ 32) = true := by simp; omega
      go_enter Tryz.func63, Tryz.ntmps63
      go_wp2
      go_ret
      rw [E.out]
      exact ⟨rfl, rfl⟩
    · have e : mayB n = false := by simp [mayB]; omega
      have E := hid e; clear e
      have h2' : decide ((n.length : Int) ≤ 32) = false := by simp; omega
      go_enter Tryz.func63, Tryz.ntmps63
      go_wp2
      go_ret
      rw [E.out]
      exact ⟨rfl, rfl⟩
  · have e : mayB n = false := by simp [mayB]; omega
    have E := hid e; clear e
    go_enter Tryz.func63, Tryz.ntmps63
    go_wp2
    go_ret
    rw [E.out]
    exact ⟨rfl, rfl⟩
end Go.Proofs.YtihgikekkgoddaaGreatDoor.Sto
/- Contracts of look and find: a name's file is handed to a function. -/
namespace Go.Proofs.YtihgikekkgoddaaGreatDoor.Sto
open Go.RowKit Go.Maps Go.Shelf

/-- what is found of a name in the map. -/
theorem lookup_any {B sb : Nat} {g : Gs} {w : World} (h : StoreAt B w sb g) (n : List UInt8) (hn : n.length ≤ maxLen) :
    (Instr.lookup 29 (.map (some g.mb)) (str n) false).run Tryz.prog w = .ok (match look n g.l with | some f => ptr f.fb | none => .pointer none) w := by
  obtain ⟨D, hD, hM⟩ := h.map
  obtain ⟨v, ps, hrun, hv⟩ := hD.lookup law Tryz.underlying29 (zeroP w) (zd := .nil) (zp := []) rfl (keyAt n hn)
  rw [hrun]
  cases hl : look n g.l with
  | none => rw [hM.zero (look_none hl)] at hv; rw [ptrR_nil hv]
  | some f =>
    obtain ⟨h1, h2⟩ := look_some hl
    have := hM.at_ f h1 .nil
    rw [h2] at this
    rw [this] at hv
    rw [ptrR_inv hv]
set_option maxHeartbeats 400000 in
theorem look_nil (w : World) (n : List UInt8) (v : Value) (k : Nat) (lb : Array Value) (hm : Calls Tryz.prog 44 #[v] w fun e w' => e = .returned (.bool false) ∧ w' = w) :
    Calls Tryz.prog 61 #[v, str n, .func (.func k) #[] lb] w fun e w' => e = .returned (.int .i64 1) ∧ w' = w := by
  have hm := hid hm
  unfold str
  go_enter Tryz.func61, Tryz.ntmps61
  go_wp2_with (go_at_call 44; refine hm.out.mono ?_; rintro e w' ⟨rfl, rfl⟩)
  go_ret
  exact ⟨rfl, rfl⟩
set_option maxHeartbeats 400000 in
theorem look_dead {B sb : Nat} {g : Gs} (w : World) (h : StoreAt B w sb g) (hd : g.left = 0) (n : List UInt8) (k : Nat) (lb : Array Value) :
    Calls Tryz.prog 61 #[ptr sb, str n, .func (.func k) #[] lb] w fun e w' => e = .returned (.int .i64 30) ∧ w' = w := by
  have hm := hid (made_yes w h)
  have hdd := dead_any w h
  rw [hd] at hdd
  have hdd := hid hdd
  unfold ptr at hm hdd ⊢
  unfold str
  clear h hd
  go_enter Tryz.func61, Tryz.ntmps61
  go_wp2_with (first | (go_at_call 44; refine hm.out.mono ?_; rintro e w' ⟨rfl, rfl⟩) | (go_at_call 17; refine hdd.out.mono ?_; rintro e w' ⟨rfl, rfl⟩))
  go_ret
  exact ⟨rfl, rfl⟩
set_option maxHeartbeats 1000000 in
theorem look_live {B sb : Nat} {g : Gs} (w : World) (h : StoreAt B w sb g) (hd : g.left ≠ 0) (n : List UInt8) (hn : n.length ≤ maxLen) (k : Nat) (lb : Array Value) (ek : Enters Tryz.prog k) (Q : Int → World → Prop)
    (hc : Calls Tryz.prog k (#[match look n g.l with | some f => ptr f.fb | none => .pointer none] ++ lb) w fun e w' => ∃ r : Int, e = .returned (.int .i64 r) ∧ Q r w') :
    Calls Tryz.prog 61 #[ptr sb, str n, .func (.func k) #[] lb] w fun e w' => ∃ r : Int, e = .returned (.int .i64 r) ∧ Q r w' := by
  have hm := hid (made_yes w h)
  have hdd := dead_any w h
  rw [show (g.left == 0) = false by simpa using hd] at hdd
  have hdd := hid hdd
  have hlk := lookup_any h n hn
  have c0 : w.cell? ⟨sb, 0, none⟩ = some (.map (some g.mb)) := by rw [cell_of h.cell]; rfl
  generalize (match look n g.l with | some f => ptr f.fb | none => .pointer none) = fv at hlk hc
  have hc := hid hc
  have ek' : ∀ (args : Array Value) (w : World), (callFunc k args).run Tryz.prog w = .ok (.enter k args) w := ek
  unfold ptr at hm hdd ⊢
  unfold str at hlk ⊢
  clear h hd hn ek
  go_enter Tryz.func61, Tryz.ntmps61
  go_wp2_with (first | (go_at_call 44; refine hm.out.mono ?_; rintro e w' ⟨rfl, rfl⟩) | (go_at_call 17; refine hdd.out.mono ?_; rintro e w' ⟨rfl, rfl⟩) | (go_at_fn k; refine hc.out.mono ?_; rintro e w' ⟨r, rfl, hq⟩; have hq := hid hq))
  go_ret
  exact ⟨r, rfl, hq.out⟩
end Go.Proofs.YtihgikekkgoddaaGreatDoor.Sto
/- Contracts of find and tell: a file that must be there is handed to a function; or is asked for a number. -/
namespace Go.Proofs.YtihgikekkgoddaaGreatDoor.Sto
open Go.RowKit Go.Maps Go.Shelf

theorem mkf : ∀ (fn : Fn) (first cap : Array Value) (w : World), (Instr.makeFunc fn first cap).run Tryz.prog w = .ok (.func fn first cap) w := fun _ _ _ _ => rfl
theorem e62 : Enters Tryz.prog 94 := enters_of Tryz.func94 (by kernel_rfl) rfl
/-- the world behind the laying of the function that find hands on. -/
def boxed (w : World) (k : Nat) (lb : Array Value) : World := w.alloc (.cells #[.func (.func k) #[] lb] 102)
theorem boxed_below (w : World) (k : Nat) (lb : Array Value) : Below w.heap.size w (boxed w k lb) := (Below.refl _ _).alloc (Nat.le_refl _) _
theorem boxed_size (w : World) (k : Nat) (lb : Array Value) : (boxed w k lb).heap.size = w.heap.size + 1 := by simp [boxed]

set_option maxHeartbeats 400000 in
theorem find1_nil (w : World) (a : Value) : Calls Tryz.prog 94 #[.pointer none, a] w fun e w' => e = .returned (.int .i64 31) ∧ w' = w := by
  go_enter Tryz.func94, Tryz.ntmps94
  go_wp2
  go_ret
  exact ⟨rfl, rfl⟩
set_option maxHeartbeats 400000 in
theorem find1_hit (w : World) (fb b k : Nat) (lb : Array Value) (hcell : w.cell? ⟨b, 0, none⟩ = some (.func (.func k) #[] lb)) (ek : Enters Tryz.prog k) (Q : Int → World → Prop)
    (hc : Calls Tryz.prog k (#[ptr fb] ++ lb) w fun e w' => ∃ r : Int, e = .returned (.int .i64 r) ∧ Q r w') :
    Calls Tryz.prog 94 #[ptr fb, ptr b] w fun e w' => ∃ r : Int, e = .returned (.int .i64 r) ∧ Q r w' := by
  have hc := hid hc
  have ek' : ∀ (args : Array Value) (w : World), (callFunc k args).run Tryz.prog w = .ok (.enter k args) w := ek
  unfold ptr at hc ⊢
  clear ek
  go_enter Tryz.func94, Tryz.ntmps94
  go_wp2_with (go_at_fn k; refine hc.out.mono ?_; rintro e w' ⟨r, rfl, hq⟩; have hq := hid hq)
  go_ret
  exact ⟨r, rfl, hq.out⟩

set_option maxHeartbeats 400000 in
theorem find_of {v : Value} (w : World) (n : List UInt8) (k : Nat) (lb : Array Value) (Q : Int → World → Prop)
    (hc : Calls Tryz.prog 61 #[v, str n, .func (.func 94) #[] #[ptr w.heap.size]] (boxed w k lb) fun e w' => ∃ r : Int, e = .returned (.int .i64 r) ∧ Q r w') :
    Calls Tryz.prog 66 #[v, str n, .func (.func k) #[] lb] w fun e w' => ∃ r : Int, e = .returned (.int .i64 r) ∧ Q r w' := by
  have hc := hid hc
  unfold ptr boxed str at hc
  unfold str
  have hmf := mkf
  go_enter Tryz.func66, Tryz.ntmps66
  go_wp2_with (go_at_call 61; refine hc.out.mono ?_; rintro e w' ⟨r, rfl, hq⟩; have hq := hid hq)
  go_ret
  exact ⟨r, rfl, hq.out⟩
theorem find_ofr {v : Value} (w : World) (n : List UInt8) (k : Nat) (lb : Array Value) (x : Int)
    (hc : Calls Tryz.prog 61 #[v, str n, .func (.func 94) #[] #[ptr w.heap.size]] (boxed w k lb) fun e w' => e = .returned (.int .i64 x) ∧ w' = boxed w k lb) :
    Calls Tryz.prog 66 #[v, str n, .func (.func k) #[] lb] w fun e w' => e = .returned (.int .i64 x) ∧ w' = boxed w k lb := by
  refine (find_of w n k lb (fun r w' => r = x ∧ w' = boxed w k lb) (hc.mono ?_)).mono ?_
  · rintro e w' ⟨rfl, rfl⟩; exact ⟨_, rfl, rfl, rfl⟩
  · rintro e w' ⟨r, rfl, rfl, rfl⟩; exact ⟨rfl, rfl⟩
theorem find_nil {v : Value} (w : World) (n : List UInt8) (k : Nat) (lb : Array Value) (hm : ∀ w1, Below w.heap.size w w1 → Calls Tryz.prog 44 #[v] w1 fun e w' => e = .returned (.bool false) ∧ w' = w1) :
    Calls Tryz.prog 66 #[v, str n, .func (.func k) #[] lb] w fun e w' => e = .returned (.int .i64 1) ∧ w' = boxed w k lb := by
  exact find_ofr w n k lb _ (look_nil _ n v _ _ (hm _ (boxed_below w k lb)))
theorem find_dead {B sb : Nat} {g : Gs} (w : World) (h : StoreAt B w sb g) (hd : g.left = 0) (n : List UInt8) (k : Nat) (lb : Array Value) :
    Calls Tryz.prog 66 #[ptr sb, str n, .func (.func k) #[] lb] w fun e w' => e = .returned (.int .i64 30) ∧ w' = boxed w k lb := by
  exact find_ofr w n k lb _ (look_dead _ (h.below (boxed_below w k lb)) hd n _ _)
theorem find_miss {B sb : Nat} {g : Gs} (w : World) (h : StoreAt B w sb g) (hd : g.left ≠ 0) (n : List UInt8) (hn : n.length ≤ maxLen) (k : Nat) (lb : Array Value) (hl : look n g.l = none) :
    Calls Tryz.prog 66 #[ptr sb, str n, .func (.func k) #[] lb] w fun e w' => e = .returned (.int .i64 31) ∧ w' = boxed w k lb := by
  refine find_ofr w n k lb _ ((look_live _ (h.below (boxed_below w k lb)) hd n hn _ _ e62 (fun r w' => r = 31 ∧ w' = boxed w k lb) ?_).mono ?_)
  · rw [hl]
    refine (find1_nil (boxed w k lb) _).mono ?_
    rintro e w' ⟨rfl, rfl⟩
    exact ⟨_, rfl, rfl, rfl⟩
  · rintro e w' ⟨r, rfl, rfl, rfl⟩
    exact ⟨rfl, rfl⟩
theorem find_hit {B sb : Nat} {g : Gs} (w : World) (h : StoreAt B w sb g) (hd : g.left ≠ 0) (n : List UInt8) (hn : n.length ≤ maxLen) (k : Nat) (lb : Array Value) (ek : Enters Tryz.prog k) {f : Fg} (hl : look n g.l = some f) (Q : Int → World → Prop)
    (hc : Calls Tryz.prog k (#[ptr f.fb] ++ lb) (boxed w k lb) fun e w' => ∃ r : Int, e = .returned (.int .i64 r) ∧ Q r w') :
    Calls Tryz.prog 66 #[ptr sb, str n, .func (.func k) #[] lb] w fun e w' => ∃ r : Int, e = .returned (.int .i64 r) ∧ Q r w' := by
  refine find_of w n k lb _ (look_live _ (h.below (boxed_below w k lb)) hd n hn _ _ e62 Q ?_)
  rw [hl]
  exact find1_hit (boxed w k lb) f.fb w.heap.size k lb (by simp [boxed]) ek Q hc

/-- tell: its two new blocks. -/
def told (w : World) (k : Nat) : World := (w.alloc (.cells #[.func (.func k) #[] #[]] 83)).alloc (.cells #[.int .i64 0] 3)
theorem told_below (w : World) (k : Nat) : Below w.heap.size w (told w k) := ((Below.refl _ _).alloc (Nat.le_refl _) _).alloc (by simp) _
theorem e63 : Enters Tryz.prog 79 := enters_of Tryz.func79 (by kernel_rfl) rfl
set_option maxHeartbeats 400000 in
theorem tell1_hit (w : World) (fb b b' k : Nat) (x y : Int) (hcell : w.cell? ⟨b, 0, none⟩ = some (.func (.func k) #[] #[])) (hcell' : w.cell? ⟨b', 0, none⟩ = some (.int .i64 y)) (hfz : w.frozen? ⟨b', 0, none⟩ = false) (ek : Enters Tryz.prog k)
    (hc : Calls Tryz.prog k #[ptr fb] w fun e w' => e = .returned (.int .i64 x) ∧ w' = w) :
    Calls Tryz.prog 79 #[ptr fb, ptr b, ptr b'] w fun e w' => e = .returned (.int .i64 0) ∧ w' = w.setCell ⟨b', 0, none⟩ (.int .i64 x) := by
  have hc := hid hc
  have ek' : ∀ (args : Array Value) (w : World), (callFunc k args).run Tryz.prog w = .ok (.enter k args) w := ek
  unfold ptr at hc ⊢
  clear ek
  go_enter Tryz.func79, Tryz.ntmps79
  go_wp2_with (go_at_fn k; refine hc.out.mono ?_; rintro e w' ⟨rfl, rfl⟩)
  go_ret
  exact ⟨rfl, rfl⟩
set_option maxHeartbeats 1000000 in
theorem tell_of {v : Value} (w : World) (n : List UInt8) (k : Nat) (x r : Int)
    (hc : Calls Tryz.prog 66 #[v, str n, .func (.func 79) #[] #[ptr w.heap.size, ptr (w.heap.size + 1)]] (told w k) fun e w' => e = .returned (.int .i64 r) ∧ Below w.heap.size w w' ∧ w'.cell? ⟨w.heap.size + 1, 0, none⟩ = some (.int .i64 x)) :
    Calls Tryz.prog 48 #[v, str n, .func (.func k) #[] #[]] w fun e w' => e = .returned (.tuple #[.int .i64 x, .int .i64 r]) ∧ Below w.heap.size w w' := by
  have hc := hid hc
  unfold ptr told str at hc
  unfold str
  have hmf := mkf
  go_enter Tryz.func48, Tryz.ntmps48
  go_wp2_with (go_at_call 66; refine hc.out.mono ?_; rintro e w' ⟨rfl, hq, hx⟩; have hq := hid hq)
  go_ret2
  exact ⟨rfl, hq.out⟩
end Go.Proofs.YtihgikekkgoddaaGreatDoor.Sto
/- What becomes of a store in memory when a file is turned in place, when a name is given a file, when a name goes. -/
namespace Go.Proofs.YtihgikekkgoddaaGreatDoor.Sto
open Go.RowKit Go.Maps Go.MapKept

theorem StoreAt.turn {B sb : Nat} {w w' : World} {g : Gs} (h : StoreAt B w sb g) {f f' : Fg} (hf : f ∈ g.l) (hn : f'.name = f.name) (hfb : f'.fb = f.fb) (hfile : FileAt w' f')
    (hk : ∀ k, k < w.heap.size → ¬ footF f k → w'.heap[k]? = w.heap[k]?) (hr : ∀ k, f'.v.ownBlock = some k → f.v.ownBlock = some k ∨ w.heap.size ≤ k) (hB : B ≤ w.heap.size) : StoreAt B w' sb { g with l := put f' g.l } := by
  have hlk : look f'.name g.l = some f := by rw [hn]; exact look_of_mem h.rising hf
  have hlen : (put f' g.l).length = g.l.length := length_put_old h.rising hlk
  obtain ⟨D, hD, hM⟩ := h.map
  have hsb : ∀ k, k = sb ∨ k = g.mb → w'.heap[k]? = w.heap[k]? := by
    rintro k (rfl | rfl)
    · exact hk _ (lt_of_block h.cell) fun e => h.sb_f hf e rfl
    · exact hk _ hD.lt fun e => h.mb_f hf e rfl
  have hdis : ∀ x ∈ g.l, x.name ≠ f.name → f'.fb ≠ x.fb ∧ ∀ k, f'.v.ownBlock = some k → x.v.ownBlock ≠ some k := by
    intro x hx hne
    obtain ⟨a1, a2⟩ := h.apart f hf x hx (Ne.symm hne)
    refine ⟨by rw [hfb]; exact a1, fun k hk' hxk => ?_⟩
    rcases hr k hk' with h1 | h1
    · exact a2 k h1 hxk
    · have := (h.files x hx).lt (.inr hxk); omega
  refine ⟨(hsb sb (.inl rfl)).trans h.cell, ⟨D, ?_, ?_⟩, ?_, ?_, rising_put h.rising, by simpa [hlen] using h.few, ?_, h.leftb⟩
  · simp only [hlen]; exact ownsMap_block hD (hsb g.mb (.inr rfl))
  · refine ⟨fun x hx z => ?_, fun n hne => ?_, by simp only [hlen]; exact hM.size⟩
    · rcases mem_put.1 hx with rfl | ⟨hx, _⟩
      · rw [hn, hfb]; exact hM.at_ f hf z
      · exact hM.at_ x hx z
    · refine hM.no n fun x hx e => ?_
      by_cases hxf : x.name = f'.name
      · exact hne f' (mem_put.2 (.inl rfl)) (hxf ▸ e)
      · exact hne x (mem_put.2 (.inr ⟨hx, hxf⟩)) e
  · intro x hx
    rcases mem_put.1 hx with rfl | ⟨hx, hne⟩
    · exact hfile
    · rw [hn] at hne
      exact (h.files x hx).keep fun k hk' => hk k ((h.files x hx).lt hk') fun e => h.two hx hf hne hk' e
  · intro x hx y hy hne
    rcases mem_put.1 hx with ex | ⟨hx', hxn⟩ <;> rcases mem_put.1 hy with ey | ⟨hy', hyn⟩
    · subst ex; subst ey; exact absurd rfl hne
    · subst ex; rw [hn] at hyn; exact hdis y hy' hyn
    · subst ey; rw [hn] at hxn
      obtain ⟨a1, a2⟩ := hdis x hx' hxn
      exact ⟨Ne.symm a1, fun k h1 h2 => a2 k h2 h1⟩
    · exact h.apart x hx' y hy' hne
  · rintro k (rfl | rfl | ⟨x, hx, hkx⟩)
    · exact h.base _ (.inl rfl)
    · exact h.base _ (.inr (.inl rfl))
    · rcases mem_put.1 hx with rfl | ⟨hx, _⟩
      · rcases hkx with rfl | hkx
        · rw [hfb]; exact h.base _ (.inr (.inr ⟨f, hf, .inl rfl⟩))
        · rcases hr k hkx with h1 | h1
          · exact h.base _ (.inr (.inr ⟨f, hf, .inr h1⟩))
          · omega
      · exact h.base _ (.inr (.inr ⟨x, hx, hkx⟩))
theorem foot_turn {sb : Nat} {g : Gs} {f f' : Fg} {n : Nat} (hf : f ∈ g.l) (hfb : f'.fb = f.fb) (hr : ∀ k, f'.v.ownBlock = some k → f.v.ownBlock = some k ∨ n ≤ k) (k : Nat) (h : foot sb { g with l := put f' g.l } k) : foot sb g k ∨ n ≤ k := by
  rcases h with h | h | ⟨x, hx, hk⟩
  · exact .inl (.inl h)
  · exact .inl (.inr (.inl h))
  · rcases mem_put.1 hx with rfl | ⟨hx, _⟩
    · rcases hk with hk | hk
      · exact .inl (.inr (.inr ⟨f, hf, .inl (by rw [hk, hfb])⟩))
      · rcases hr k hk with h1 | h1
        · exact .inl (.inr (.inr ⟨f, hf, .inr h1⟩))
        · exact .inr h1
    · exact .inl (.inr (.inr ⟨x, hx, hk⟩))
/-- a name is given a file. -/
theorem StoreAt.mapPut {B sb : Nat} {w w' : World} {g : Gs} (h : StoreAt B w sb g) {f : Fg} (hf : FileAt w f) (hfar : ∀ x ∈ g.l, x.name ≠ f.name → f.fb ≠ x.fb ∧ ∀ k, f.v.ownBlock = some k → x.v.ownBlock ≠ some k)
    (hlen : (put f g.l).length ≤ 64) (hb : ∀ k, footF f k → B ≤ k) (hmap : ∃ D n, MapOf D g.l ∧ Maps.Tidy D ∧ w'.ownsMap Tryz.prog 9 ptrR g.mb n (D.put (.string f.name) (.lit (.int .i64 f.fb))))
    (hk : Kept (· = g.mb) w w') : StoreAt B w' sb { g with l := put f g.l } := by
  obtain ⟨D, n, hM, hT, hD'⟩ := hmap
  have hM' := hM.put h.rising hT f
  have hblk : ∀ k, k < w.heap.size → k ≠ g.mb → w'.heap[k]? = w.heap[k]? := fun k h1 h2 => hk.block k h1 h2
  have hfm : ∀ k, footF f k → k ≠ g.mb := by
    obtain ⟨D0, hD0, _⟩ := h.map
    obtain ⟨es, c, h1⟩ := map_block hD0
    rintro k (hk | hk) e
    · rw [← e, hk, hf.cell] at h1; cases h1
    · obtain ⟨c', h2⟩ := row_block hf hk; rw [← e, h2] at h1; cases h1
  refine ⟨(hblk _ (lt_of_block h.cell) h.sb_mb).trans h.cell, ⟨_, ?_, hM'⟩, ?_, ?_, rising_put h.rising, hlen, ?_, h.leftb⟩
  · have := ownsMap_size hD'
    rw [hM'.size] at this
    exact this
  · intro x hx
    rcases mem_put.1 hx with rfl | ⟨hx, _⟩
    · exact hf.keep fun k hk => hblk k (hf.lt hk) (hfm k hk)
    · exact (h.files x hx).keep fun k hk => hblk k ((h.files x hx).lt hk) (h.mb_f hx hk)
  · intro x hx y hy hne
    rcases mem_put.1 hx with ex | ⟨hx', hxn⟩ <;> rcases mem_put.1 hy with ey | ⟨hy', hyn⟩
    · subst ex; subst ey; exact absurd rfl hne
    · subst ex; exact hfar y hy' hyn
    · subst ey
      obtain ⟨a1, a2⟩ := hfar x hx' hxn
      exact ⟨Ne.symm a1, fun k h1 h2 => a2 k h2 h1⟩
    · exact h.apart x hx' y hy' hne
  · rintro k (rfl | rfl | ⟨x, hx, hkx⟩)
    · exact h.base _ (.inl rfl)
    · exact h.base _ (.inr (.inl rfl))
    · rcases mem_put.1 hx with rfl | ⟨hx, _⟩
      · exact hb k hkx
      · exact h.base _ (.inr (.inr ⟨x, hx, hkx⟩))
/-- a name goes. -/
theorem StoreAt.mapDel {B sb : Nat} {w w' : World} {g : Gs} (h : StoreAt B w sb g) {f : Fg} (hf : f ∈ g.l) (hmap : ∃ D n, MapOf D g.l ∧ Maps.Tidy D ∧ w'.ownsMap Tryz.prog 9 ptrR g.mb n (D.del (.string f.name)))
    (hk : Kept (· = g.mb) w w') : StoreAt B w' sb { g with l := del f.name g.l } := by
  obtain ⟨D, n, hM, hT, hD'⟩ := hmap
  have hM' := hM.del h.rising hT hf
  have hblk : ∀ k, k < w.heap.size → k ≠ g.mb → w'.heap[k]? = w.heap[k]? := fun k h1 h2 => hk.block k h1 h2
  have hl := length_del h.rising hf rfl
  have hfew := h.few
  refine ⟨(hblk _ (lt_of_block h.cell) h.sb_mb).trans h.cell, ⟨_, ?_, hM'⟩, ?_, ?_, rising_del h.rising, ?_, ?_, h.leftb⟩
  · have := ownsMap_size hD'
    rw [hM'.size] at this
    exact this
  · intro x hx
    have hx := (mem_del.1 hx).1
    exact (h.files x hx).keep fun k hk => hblk k ((h.files x hx).lt hk) (h.mb_f hx hk)
  · intro x hx y hy hne
    exact h.apart x (mem_del.1 hx).1 y (mem_del.1 hy).1 hne
  · simp only; omega
  · rintro k (rfl | rfl | ⟨x, hx, hkx⟩)
    · exact h.base _ (.inl rfl)
    · exact h.base _ (.inr (.inl rfl))
    · exact h.base _ (.inr (.inr ⟨x, (mem_del.1 hx).1, hkx⟩))
theorem foot_del {sb : Nat} {g : Gs} {n : List UInt8} {k : Nat} (h : foot sb { g with l := del n g.l } k) : foot sb g k := by
  rcases h with h | h | ⟨x, hx, hk⟩
  · exact .inl h
  · exact .inr (.inl h)
  · exact .inr (.inr ⟨x, (mem_del.1 hx).1, hk⟩)
theorem foot_put {sb : Nat} {g : Gs} {f : Fg} {k : Nat} (h : foot sb { g with l := put f g.l } k) : foot sb g k ∨ footF f k := by
  rcases h with h | h | ⟨x, hx, hk⟩
  · exact .inl (.inl h)
  · exact .inl (.inr (.inl h))
  · rcases mem_put.1 hx with rfl | ⟨hx, _⟩
    · exact .inr hk
    · exact .inl (.inr (.inr ⟨x, hx, hk⟩))
end Go.Proofs.YtihgikekkgoddaaGreatDoor.Sto
