/- How a store of files lies in memory: the struct, the map of names, each file's struct, each file's row of bytes; what stays when they stay; what a call may turn. -/
import Derived.Test.YtinnegkkfaaceaaProg
import Derived.Test.YtinnegkkfaaceaaPlain
import Derived.Maps.OwnSet
import Derived.Maps.AppendAt
import Derived.Below
import Derived.WalkKit
namespace Go.Proofs.Ytinnegkkfaaceaa
open Go.RowKit Go.Maps Go.MapKept

theorem hid {p : Prop} (h : p) : Hid p := h
def bv (c : UInt8) : Value := .int .u8 (c.toNat : Int)
def str (n : List UInt8) : Value := .string ⟨n.toArray⟩
def ptr (b : Nat) : Value := .pointer (some ⟨b, 0, none⟩)
/-- what became of memory: outside F all that lay lies as it did. -/
structure Kept (F : Nat → Prop) (w w' : World) : Prop where
  os : w'.os = w.os
  tape : w'.tape = w.tape
  output : w'.output = w.output
  size : w.heap.size ≤ w'.heap.size
  block : ∀ k, k < w.heap.size → ¬ F k → w'.heap[k]? = w.heap[k]?
theorem Kept.refl (F : Nat → Prop) (w : World) : Kept F w w := ⟨rfl, rfl, rfl, Nat.le_refl _, fun _ _ _ => rfl⟩
theorem Kept.trans {F F' : Nat → Prop} {a b c : World} (h : Kept F a b) (k : Kept F' b c) (hF : ∀ k, F' k → F k ∨ a.heap.size ≤ k) : Kept F a c :=
  ⟨k.os.trans h.os, k.tape.trans h.tape, k.output.trans h.output, Nat.le_trans h.size k.size, fun i hi hn => (k.block i (Nat.lt_of_lt_of_le hi h.size) (fun hf => (hF i hf).elim hn (by omega))).trans (h.block i hi hn)⟩
theorem Kept.mono {F F' : Nat → Prop} {a b : World} (h : Kept F a b) (hF : ∀ k, k < a.heap.size → F k → F' k) : Kept F' a b :=
  ⟨h.os, h.tape, h.output, h.size, fun i hi hn => h.block i hi fun hf => hn (hF i hi hf)⟩
theorem Kept.below {F : Nat → Prop} {a b : World} (h : Kept F a b) {B : Nat} (hB : B ≤ a.heap.size) (hF : ∀ k, F k → B ≤ k) : Below B a b :=
  ⟨h.os, h.tape, h.output, h.size, fun i hi => h.block i (by omega) fun hf => by have := hF i hf; omega⟩
theorem kept_of_below {F : Nat → Prop} {a b : World} (h : Below a.heap.size a b) : Kept F a b :=
  ⟨h.os, h.tape, h.output, h.size, fun i hi _ => h.block i hi⟩
theorem kept_of_grown {F : Nat → Prop} {a b : World} {row : Option Nat} (h : a.grownBy b row) (hr : ∀ k, row = some k → F k) : Kept F a b :=
  ⟨h.os, h.tape, h.output, h.size, fun i hi hn => h.block i hi fun e => hn (hr i e.symm)⟩
theorem heap_set (w : World) (b o : Nat) (v : Value) (k : Nat) (h : k ≠ b) : (w.setCell ⟨b, o, none⟩ v).heap[k]? = w.heap[k]? := by
  simp [World.setCell, Array.getElem?_modify, Ne.symm h]
theorem heap_set_at {w : World} {b o : Nat} {c : Array Value} {t : TypeId} {fz : Nat × Nat} (h : w.heap[b]? = some (.cells c t fz)) (v : Value) : (w.setCell ⟨b, o, none⟩ v).heap[b]? = some (.cells (c.setIfInBounds o v) t fz) := by
  simp [World.setCell, Array.getElem?_modify, h]
theorem size_set (w : World) (a : Addr) (v : Value) : (w.setCell a v).heap.size = w.heap.size := by
  simp [World.setCell]
theorem kept_set {F : Nat → Prop} (w : World) (b o : Nat) (v : Value) (hb : F b) : Kept F w (w.setCell ⟨b, o, none⟩ v) :=
  ⟨rfl, rfl, rfl, by rw [size_set]; exact Nat.le_refl _, fun k _ hn => heap_set w b o v k fun e => hn (e ▸ hb)⟩
theorem cell_of {w : World} {b : Nat} {c : Array Value} {t : TypeId} (h : w.heap[b]? = some (.cells c t)) (o : Nat) : w.cell? ⟨b, o, none⟩ = c[o]? := by
  simp [World.cell?, h]
theorem frozen_of {w : World} {b : Nat} {c : Array Value} {t : TypeId} (h : w.heap[b]? = some (.cells c t)) (o : Nat) : w.frozen? ⟨b, o, none⟩ = false := by
  simp [World.frozen?, h]
theorem lt_of_block {w : World} {b : Nat} {o : Obj} (h : w.heap[b]? = some o) : b < w.heap.size := (Array.getElem?_eq_some_iff.1 h).1

/-- how the map's elements read: a file's block. -/
def ptrR : Value → Option (DataW Unit × List MemPlace)
  | .pointer none => some (.nil, [])
  | .pointer (some ⟨b, 0, none⟩) => some (.lit (.int .i64 b), [])
  | _ => none
theorem ptrR_inv {v : Value} {b : Nat} {ps : List MemPlace} (h : ptrR v = some (.lit (.int .i64 b), ps)) : v = ptr b := by
  unfold ptrR at h
  split at h
  · simp at h
  · simp at h; have e := Int.ofNat_inj.1 h.1; rw [e]; rfl
  · cases h
theorem ptrR_nil {v : Value} {ps : List MemPlace} (h : ptrR v = some (.nil, ps)) : v = .pointer none := by
  unfold ptrR at h
  split at h
  · rfl
  · simp at h
  · cases h
theorem law : Keyed Try.prog 9 := string_keyed Try.underlying9
theorem keyAt (n : List UInt8) (h : n.length ≤ maxLen) : keyOf Try.prog 9 (str n) = some (.string n) := by
  have := Go.WideMaps.keyOf_string_mk Try.underlying9 (s := ⟨n.toArray⟩) (by show n.toArray.size ≤ maxLen; simpa using h)
  simpa [str] using this
theorem zeroP (w : World) : (zeroValue 73).run Try.prog w = .ok (.pointer none) w := by kernel_rfl

/-- the map's datum and the list of files. -/
structure MapOf (D : DataW Unit) (l : List Fg) : Prop where
  at_ : ∀ f ∈ l, ∀ z, D.atKey (.string f.name) z = .lit (.int .i64 f.fb)
  no : ∀ n, (∀ f ∈ l, f.name ≠ n) → Maps.has D (.string n) = false
  size : Maps.size D = l.length
theorem MapOf.has {D : DataW Unit} {l : List Fg} (h : MapOf D l) {f : Fg} (hf : f ∈ l) : Maps.has D (.string f.name) = true :=
  Maps.has_true_of_atKey (h.at_ f hf)
theorem MapOf.zero {D : DataW Unit} {l : List Fg} (h : MapOf D l) {n : List UInt8} (hn : ∀ f ∈ l, f.name ≠ n) (z : DataW Unit) : D.atKey (.string n) z = z :=
  Maps.atKey_of_not_has (h.no n hn) z
theorem isKeyS (n : List UInt8) : WideAt.IsKeyLit (.string n) := trivial
theorem MapOf.put {D : DataW Unit} {l : List Fg} (h : MapOf D l) (hr : Rising l) (hm : Maps.Tidy D) (f : Fg) : MapOf (D.put (.string f.name) (.lit (.int .i64 f.fb))) (put f l) := by
  refine ⟨fun x hx z => ?_, fun n hn => ?_, ?_⟩
  · rcases mem_put.1 hx with rfl | ⟨hx, hne⟩
    · exact Maps.atKey_put_same hm.isMap (isKeyS _) _ z
    · rw [Maps.atKey_put_other (by simpa using hne)]; exact h.at_ x hx z
  · have h1 : f.name ≠ n := hn f (mem_put.2 (.inl rfl))
    rw [Maps.has_put_other (by simpa using Ne.symm h1)]
    refine h.no n fun x hx e => ?_
    by_cases hxf : x.name = f.name
    · exact h1 (hxf ▸ e)
    · exact hn x (mem_put.2 (.inr ⟨hx, hxf⟩)) e
  · rw [Maps.size_put hm, h.size]
    cases hl : look f.name l with
    | none => rw [h.no f.name (look_none hl), length_put_new hl]; simp
    | some g =>
      obtain ⟨g1, g2⟩ := look_some hl
      have := h.has g1
      rw [g2] at this
      rw [this, length_put_old hr hl]; simp
theorem MapOf.del {D : DataW Unit} {l : List Fg} (h : MapOf D l) (hr : Rising l) (hm : Maps.Tidy D) {f : Fg} (hf : f ∈ l) : MapOf (D.del (.string f.name)) (del f.name l) := by
  refine ⟨fun x hx z => ?_, fun n hn => ?_, ?_⟩
  · obtain ⟨hx, hne⟩ := mem_del.1 hx
    rw [Maps.atKey_del_other (by simpa using hne)]; exact h.at_ x hx z
  · by_cases h1 : n = f.name
    · subst h1; exact Maps.has_del_same
    · rw [Maps.has_del_other (by simpa using h1)]
      exact h.no n fun x hx e => hn x (mem_del.2 ⟨hx, fun e' => h1 (e ▸ e')⟩) e
  · have h1 := Maps.size_del (k := .string f.name) hm
    rw [h.has hf, h.size] at h1
    have h2 := length_del hr hf rfl
    simp at h1
    omega

/-- a file in memory. -/
structure FileAt (w : World) (f : Fg) : Prop where
  cell : w.heap[f.fb]? = some (.cells #[f.v, .int .i64 (f.s : Int)] 76)
  row : w.ownsRow 0 5 1 f.v f.b.length (f.b.map bv)
  syn : f.s ≤ f.b.length
  big : f.b.length ≤ 1048576
  nm : 1 ≤ f.name.length ∧ f.name.length ≤ 32
/-- a store: where its map lies, its files, how many acts were done, how many are left. -/
structure Gs where
  mb : Nat
  l : List Fg
  acts : Nat
  left : Int
def footF (f : Fg) (k : Nat) : Prop := k = f.fb ∨ f.v.ownBlock = some k
def foot (sb : Nat) (g : Gs) (k : Nat) : Prop := k = sb ∨ k = g.mb ∨ ∃ f ∈ g.l, footF f k
structure StoreAt (B : Nat) (w : World) (sb : Nat) (g : Gs) : Prop where
  cell : w.heap[sb]? = some (.cells #[.map (some g.mb), .int .i64 (g.acts : Int), .int .i64 g.left] 52)
  map : ∃ D, w.ownsMap Try.prog 9 ptrR g.mb g.l.length D ∧ MapOf D g.l
  files : ∀ f ∈ g.l, FileAt w f
  apart : ∀ f ∈ g.l, ∀ h ∈ g.l, f.name ≠ h.name → f.fb ≠ h.fb ∧ ∀ k, f.v.ownBlock = some k → h.v.ownBlock ≠ some k
  rising : Rising g.l
  few : g.l.length ≤ 64
  base : ∀ k, foot sb g k → B ≤ k
  leftb : -9223372036854775808 ≤ g.left ∧ g.left ≤ 9223372036854775807

theorem ownsMap_size {w : World} {b n : Nat} {D : DataW Unit} (h : w.ownsMap Try.prog 9 ptrR b n D) : w.ownsMap Try.prog 9 ptrR b (Maps.size D) D := by
  obtain ⟨es, clock, hb, F, hs, rfl⟩ := h
  exact ⟨es, clock, hb, F, by simp [Maps.size, length_sorted], rfl⟩
theorem ownsMap_block {w w' : World} {b n : Nat} {D : DataW Unit} (h : w.ownsMap Try.prog 9 ptrR b n D) (hb : w'.heap[b]? = w.heap[b]?) : w'.ownsMap Try.prog 9 ptrR b n D := by
  obtain ⟨es, clock, h1, F, hs, hD⟩ := h
  exact ⟨es, clock, hb.trans h1, F, hs, hD⟩
theorem ownsRow_block {w w' : World} {base : Nat} {e : TypeId} {s : Nat} {v : Value} {n : Nat} {xs : List Value} (h : w.ownsRow base e s v n xs) (hb : ∀ k, v.ownBlock = some k → w'.heap[k]? = w.heap[k]?) : w'.ownsRow base e s v n xs := by
  refine ⟨h.1, ?_⟩
  rcases h.2 with hn | ⟨g, cap, cur, rfl, h1, h2, rest⟩
  · exact .inl hn
  · exact .inr ⟨g, cap, cur, rfl, h1, (hb g rfl).trans h2, rest⟩
theorem FileAt.keep {w w' : World} {f : Fg} (h : FileAt w f) (hb : ∀ k, footF f k → w'.heap[k]? = w.heap[k]?) : FileAt w' f :=
  ⟨(hb _ (.inl rfl)).trans h.cell, ownsRow_block h.row fun k hk => hb k (.inr hk), h.syn, h.big, h.nm⟩
theorem StoreAt.keep {B sb : Nat} {w w' : World} {g : Gs} (h : StoreAt B w sb g) (hb : ∀ k, foot sb g k → w'.heap[k]? = w.heap[k]?) : StoreAt B w' sb g := by
  obtain ⟨D, hD, hM⟩ := h.map
  exact ⟨(hb _ (.inl rfl)).trans h.cell, ⟨D, ownsMap_block hD (hb _ (.inr (.inl rfl))), hM⟩, fun f hf => (h.files f hf).keep fun k hk => hb k (.inr (.inr ⟨f, hf, hk⟩)), h.apart, h.rising, h.few, h.base, h.leftb⟩
theorem FileAt.lt {w : World} {f : Fg} (h : FileAt w f) {k : Nat} (hk : footF f k) : k < w.heap.size := by
  rcases hk with rfl | hk
  · exact lt_of_block h.cell
  · exact (h.row.lt k hk).2
theorem StoreAt.lt {B sb : Nat} {w : World} {g : Gs} (h : StoreAt B w sb g) {k : Nat} (hk : foot sb g k) : k < w.heap.size := by
  rcases hk with rfl | rfl | ⟨f, hf, hk⟩
  · exact lt_of_block h.cell
  · obtain ⟨D, hD, _⟩ := h.map; exact hD.lt
  · exact (h.files f hf).lt hk
theorem StoreAt.below {B sb : Nat} {w w' : World} {g : Gs} (h : StoreAt B w sb g) (hb : Below w.heap.size w w') : StoreAt B w' sb g :=
  h.keep fun k hk => hb.block k (h.lt hk)
theorem StoreAt.lower {B B' sb : Nat} {w : World} {g : Gs} (h : StoreAt B w sb g) (hB : B' ≤ B) : StoreAt B' w sb g :=
  ⟨h.cell, h.map, h.files, h.apart, h.rising, h.few, fun k hk => Nat.le_trans hB (h.base k hk), h.leftb⟩
/-- blocks of unlike kinds are unlike. -/
theorem row_block {w : World} {f : Fg} (h : FileAt w f) {k : Nat} (hk : f.v.ownBlock = some k) : ∃ c, w.heap[k]? = some (.cells c 5) := by
  rcases h.row.2 with ⟨e, _⟩ | ⟨g, cap, cur, e, _, h2, _⟩
  · rw [e] at hk; cases hk
  · rw [e] at hk; cases hk; exact ⟨cur, h2⟩
theorem map_block {w : World} {b n : Nat} {D : DataW Unit} (h : w.ownsMap Try.prog 9 ptrR b n D) : ∃ es c, w.heap[b]? = some (.map es c) := by
  obtain ⟨es, clock, h1, _⟩ := h
  exact ⟨es, clock, h1⟩
theorem StoreAt.sb_mb {B sb : Nat} {w : World} {g : Gs} (h : StoreAt B w sb g) : sb ≠ g.mb := by
  obtain ⟨D, hD, _⟩ := h.map
  obtain ⟨es, c, h1⟩ := map_block hD
  intro e; have := h.cell; rw [e, h1] at this; cases this
theorem StoreAt.sb_f {B sb : Nat} {w : World} {g : Gs} (h : StoreAt B w sb g) {f : Fg} (hf : f ∈ g.l) {k : Nat} (hk : footF f k) : k ≠ sb := by
  intro e; subst e
  have h0 := h.cell
  rcases hk with rfl | hk
  · rw [(h.files f hf).cell] at h0; simp at h0
  · obtain ⟨c, h1⟩ := row_block (h.files f hf) hk; rw [h1] at h0; simp at h0
theorem StoreAt.mb_f {B sb : Nat} {w : World} {g : Gs} (h : StoreAt B w sb g) {f : Fg} (hf : f ∈ g.l) {k : Nat} (hk : footF f k) : k ≠ g.mb := by
  obtain ⟨D, hD, _⟩ := h.map
  obtain ⟨es, c, h1⟩ := map_block hD
  intro e
  rcases hk with hk | hk
  · rw [← e, hk, (h.files f hf).cell] at h1; cases h1
  · obtain ⟨c', h2⟩ := row_block (h.files f hf) hk; rw [← e, h2] at h1; cases h1
theorem FileAt.fb_row {w : World} {f h : Fg} (a : FileAt w f) (b : FileAt w h) {k : Nat} (hk : f.v.ownBlock = some k) : k ≠ h.fb := by
  obtain ⟨c, h1⟩ := row_block a hk
  intro e; subst e; rw [b.cell] at h1; simp at h1
/-- unlike files share no block. -/
theorem StoreAt.two {B sb : Nat} {w : World} {g : Gs} (h : StoreAt B w sb g) {f x : Fg} (hf : f ∈ g.l) (hx : x ∈ g.l) (hne : f.name ≠ x.name) {k : Nat} (h1 : footF f k) (h2 : footF x k) : False := by
  obtain ⟨a1, a2⟩ := h.apart f hf x hx hne
  rcases h1 with rfl | h1 <;> rcases h2 with h2 | h2
  · exact a1 h2
  · exact (h.files x hx).fb_row (h.files f hf) h2 rfl
  · exact (h.files f hf).fb_row (h.files x hx) h1 h2
  · exact a2 k h1 h2
end Go.Proofs.Ytinnegkkfaaceaa
