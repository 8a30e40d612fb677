/- Joined: M MM. -/
import Derived.Test.YtjhodmpgggaknaaGreatDoorRows
import Derived.Test.YtjhodmpgggaknaaGreatDoorZGA
import Derived.WalkKit
import Derived.WalkSpells
import Derived.WalkLawsBesides
import Derived.Laws.BitsLemmas
import Derived.Deep.QuietTactic
import Derived.BigQuiet
import Derived.Below
import Derived.Maps.AppendAt
import Derived.Maps.OwnSet
import Derived.Laws.OwnMore
import Derived.Laws.BytesArg
import Derived.Lib.SliceRun
/- Bytes in memory: slices, rows of one's own, what append makes, what stays; what string(b) tells. -/
namespace Go.Proofs.YtjhodmpgggaknaaGreatDoor
open Go.RowKit

def Byt (zs : List Int) : Prop := ∀ z ∈ zs, 0 ≤ z ∧ z < 256
theorem Byt.app {a b : List Int} (h : Byt a) (k : Byt b) : Byt (a ++ b) := fun z hz => (List.mem_append.1 hz).elim (h z) (k z)
theorem Byt.left {a b : List Int} (h : Byt (a ++ b)) : Byt a := fun z hz => h z (List.mem_append.2 (.inl hz))
theorem Byt.right {a b : List Int} (h : Byt (a ++ b)) : Byt b := fun z hz => h z (List.mem_append.2 (.inr hz))
theorem Byt.take {a : List Int} (h : Byt a) (n : Nat) : Byt (a.take n) := fun z hz => h z (List.mem_of_mem_take hz)
theorem Byt.drop {a : List Int} (h : Byt a) (n : Nat) : Byt (a.drop n) := fun z hz => h z (List.mem_of_mem_drop hz)
theorem Byt.tail {c : Int} {a : List Int} (h : Byt (c :: a)) : Byt a := fun z hz => h z (List.mem_cons_of_mem _ hz)
theorem Byt.head {c : Int} {a : List Int} (h : Byt (c :: a)) : 0 ≤ c ∧ c < 256 := h c (by simp)
theorem byt_one {z : Int} (h : 0 ≤ z ∧ z < 256) : Byt [z] := fun x hx => by simp at hx; subst hx; exact h
theorem Byt.getD {a : List Int} (h : Byt a) (i : Nat) (hi : i < a.length) : 0 ≤ a.getD i 0 ∧ a.getD i 0 < 256 := h _ (by simp [List.getD, List.getElem?_eq_getElem hi])
def ints (s : List UInt8) : List Int := s.map fun c => (c.toNat : Int)
def byts (zs : List Int) : List UInt8 := zs.map fun z => UInt8.ofNat z.toNat
theorem ints_len (s : List UInt8) : (ints s).length = s.length := by simp [ints]
theorem ints_app (a b : List UInt8) : ints (a ++ b) = ints a ++ ints b := by simp [ints]
theorem byts_ints (s : List UInt8) : byts (ints s) = s := by
  unfold byts ints; rw [List.map_map]
  conv => rhs; rw [← List.map_id s]
  apply List.map_congr_left; intro c _; simp
theorem ret_int {k : IntKind} {a b : Int} (h : a = b) : Ending.returned (.int k a) = .returned (.int k b) := by rw [h]
theorem hid {p : Prop} (h : p) : Hid p := h
def ptr (b : Nat) : Value := .pointer (some ⟨b, 0, none⟩)
def str (n : List UInt8) : Value := .string ⟨n.toArray⟩
/-- a slice's value over a row of bytes. -/
def IsB (w : World) (v : Value) (zs : List Int) : Prop :=
  zs.length ≤ maxLen ∧ (∀ z ∈ zs, 0 ≤ z ∧ z < 256) ∧ ∃ a cap, v = .slice a zs.length cap ∧ zs.length ≤ cap ∧ cap ≤ maxLen ∧ (zs = [] ∨ ∃ b off, a = some ⟨b, off, none⟩ ∧ ∀ i, i < zs.length → w.cell? ⟨b, off + i, none⟩ = some (.int .u8 (zs.getD i 0)))
theorem IsB.below {w w' : World} {v : Value} {zs : List Int} (h : IsB w v zs) (hb : Below w.heap.size w w') : IsB w' v zs := by
  obtain ⟨h1, h2, a, cap, rfl, h4, h5, h3⟩ := h
  refine ⟨h1, h2, a, cap, rfl, h4, h5, ?_⟩
  rcases h3 with rfl | ⟨b, off, rfl, hc⟩
  · exact .inl rfl
  · refine .inr ⟨b, off, rfl, fun i hi => ?_⟩
    have := hc i hi
    rw [hb.cell (p := ⟨b, off + i, none⟩) (World.block_lt_of_cell? w _ this)]
    exact this
/-- what became of memory: outside F all that lay lies as it did. -/
structure Kept (F : Nat → Prop) (w w' : World) : Prop where
  os : w'.os = w.os
  tape : w'.tape = w.tape
  output : w'.output = w.output
  size : w.heap.size ≤ w'.heap.size
  block : ∀ k, k < w.heap.size → ¬ F k → w'.heap[k]? = w.heap[k]?
theorem Kept.refl (F : Nat → Prop) (w : World) : Kept F w w := ⟨rfl, rfl, rfl, Nat.le_refl _, fun _ _ _ => rfl⟩
theorem Kept.trans {F F' : Nat → Prop} {a b c : World} (h : Kept F a b) (k : Kept F' b c) (hF : ∀ k, F' k → F k ∨ a.heap.size ≤ k) : Kept F a c :=
  ⟨k.os.trans h.os, k.tape.trans h.tape, k.output.trans h.output, Nat.le_trans h.size k.size, fun i hi hn => (k.block i (Nat.lt_of_lt_of_le hi h.size) (fun hf => (hF i hf).elim hn (by omega))).trans (h.block i hi hn)⟩
theorem Kept.mono {F F' : Nat → Prop} {a b : World} (h : Kept F a b) (hF : ∀ k, k < a.heap.size → F k → F' k) : Kept F' a b :=
  ⟨h.os, h.tape, h.output, h.size, fun i hi hn => h.block i hi fun hf => hn (hF i hi hf)⟩
theorem Kept.below {F : Nat → Prop} {a b : World} (h : Kept F a b) {B : Nat} (hB : B ≤ a.heap.size) (hF : ∀ k, F k → B ≤ k) : Below B a b :=
  ⟨h.os, h.tape, h.output, h.size, fun i hi => h.block i (by omega) fun hf => by have := hF i hf; omega⟩
theorem kept_of_grown {F : Nat → Prop} {a b : World} {row : Option Nat} (h : a.grownBy b row) (hr : ∀ k, row = some k → F k) : Kept F a b :=
  ⟨h.os, h.tape, h.output, h.size, fun i hi hn => h.block i hi fun e => hn (hr i e.symm)⟩
theorem new_block (w : World) (o : Obj) : (w.alloc o).heap[w.heap.size]? = some o := (MapKept.heap_alloc w o).1
theorem alloc_below (w : World) (o : Obj) : Below w.heap.size w (w.alloc o) := (Below.refl _ _).alloc (Nat.le_refl _) _
theorem low' {w w1 w2 : World} (L : Below w.heap.size w w1) (hb : Below w1.heap.size w1 w2) : Below w.heap.size w w2 := L.trans (hb.mono L.size)
theorem cell_of {w : World} {b : Nat} {c : Array Value} {t : TypeId} {fz : Nat × Nat} (h : w.heap[b]? = some (.cells c t fz)) (o : Nat) : w.cell? ⟨b, o, none⟩ = c[o]? := by
  simp [World.cell?, h]
theorem frozen_of {w : World} {b : Nat} {c : Array Value} {t : TypeId} (h : w.heap[b]? = some (.cells c t)) (o : Nat) : w.frozen? ⟨b, o, none⟩ = false := by
  simp [World.frozen?, h]
theorem heap_set (w : World) (b o : Nat) (v : Value) (k : Nat) (h : k ≠ b) : (w.setCell ⟨b, o, none⟩ v).heap[k]? = w.heap[k]? := by
  simp [World.setCell, Array.getElem?_modify, Ne.symm h]
theorem heap_set_at {w : World} {b o : Nat} {c : Array Value} {t : TypeId} {fz : Nat × Nat} (h : w.heap[b]? = some (.cells c t fz)) (v : Value) : (w.setCell ⟨b, o, none⟩ v).heap[b]? = some (.cells (c.setIfInBounds o v) t fz) := by
  simp [World.setCell, Array.getElem?_modify, h]
theorem size_set (w : World) (a : Addr) (v : Value) : (w.setCell a v).heap.size = w.heap.size := by
  simp [World.setCell]
theorem lt_of_block {w : World} {b : Nat} {o : Obj} (h : w.heap[b]? = some o) : b < w.heap.size := (Array.getElem?_eq_some_iff.1 h).1
theorem ownsRow_block {w w' : World} {base : Nat} {e : TypeId} {s : Nat} {v : Value} {n : Nat} {xs : List Value} (h : w.ownsRow base e s v n xs) (hb : ∀ k, v.ownBlock = some k → w'.heap[k]? = w.heap[k]?) : w'.ownsRow base e s v n xs := by
  refine ⟨h.1, ?_⟩
  rcases h.2 with hn | ⟨g, cap, cur, rfl, h1, h2, rest⟩
  · exact .inl hn
  · exact .inr ⟨g, cap, cur, rfl, h1, (hb g rfl).trans h2, rest⟩
theorem ownsRow_base {w : World} {base base' : Nat} {e : TypeId} {s : Nat} {v : Value} {n : Nat} {xs : List Value} (h : w.ownsRow base e s v n xs) (hb : ∀ k, v.ownBlock = some k → base' ≤ k) : w.ownsRow base' e s v n xs := by
  refine ⟨h.1, ?_⟩
  rcases h.2 with hn | ⟨g, cap, cur, rfl, h1, h2, rest⟩
  · exact .inl hn
  · exact .inr ⟨g, cap, cur, rfl, hb g rfl, h2, rest⟩
theorem row_slice {w : World} {base : Nat} {e : TypeId} {s : Nat} {v : Value} {n : Nat} {xs : List Value} (h : w.ownsRow base e s v n xs) : ∃ a c, v = .slice a n c := by
  rcases h.2 with ⟨rfl, h0⟩ | ⟨g, cap, cur, rfl, _⟩
  · exact ⟨none, 0, by rw [h0]⟩
  · exact ⟨_, cap, rfl⟩

/-- a row of bytes of one's own, in a block from B on. -/
def Own (B : Nat) (w : World) (v : Value) (zs : List Int) : Prop := Byt zs ∧ w.ownsRow B 5 1 v zs.length (zs.map (Value.int .u8))
theorem Own.slice {B : Nat} {w : World} {v : Value} {zs : List Int} (h : Own B w v zs) : ∃ a c, v = .slice a zs.length c := row_slice h.2
theorem Own.keep {B : Nat} {w w' : World} {v : Value} {zs : List Int} (h : Own B w v zs) (hb : ∀ k, v.ownBlock = some k → w'.heap[k]? = w.heap[k]?) : Own B w' v zs := ⟨h.1, ownsRow_block h.2 hb⟩
theorem Own.lt {B : Nat} {w : World} {v : Value} {zs : List Int} (h : Own B w v zs) {k : Nat} (hk : v.ownBlock = some k) : B ≤ k ∧ k < w.heap.size := h.2.lt k hk
theorem Own.below {B : Nat} {w w' : World} {v : Value} {zs : List Int} (h : Own B w v zs) (hb : Below w.heap.size w w') : Own B w' v zs := h.keep fun k hk => hb.block k (h.lt hk).2
theorem Own.base {B B' : Nat} {w : World} {v : Value} {zs : List Int} (h : Own B w v zs) (hB : B' ≤ B) : Own B' w v zs := ⟨h.1, ownsRow_base h.2 fun _ hk => Nat.le_trans hB (h.lt hk).1⟩
theorem Own.form {B : Nat} {w : World} {v : Value} {zs : List Int} (h : Own B w v zs) : (v = .slice none 0 0 ∧ zs = []) ∨ ∃ g c cur, v = .slice (some ⟨g, 0, none⟩) zs.length c ∧ zs.length ≤ c ∧ c ≤ maxLen ∧ B ≤ g ∧ w.heap[g]? = some (.cells cur 5) ∧ cur.size = c ∧ ∀ i, i < zs.length → cur[i]? = some (.int .u8 (zs.getD i 0)) := by
  rcases h.2.2 with ⟨rfl, h0⟩ | ⟨g, cap, cur, rfl, hB, hg, h1, h2, h3, h4⟩
  · exact .inl ⟨rfl, List.eq_nil_of_length_eq_zero h0⟩
  · refine .inr ⟨g, cap, cur, rfl, h1, h2, hB, hg, by simpa using h3, fun i hi => ?_⟩
    have : (cur.toList.take (zs.length * 1))[i]? = (zs.map (Value.int .u8))[i]? := by rw [h4]
    rw [List.getElem?_take_of_lt (by omega)] at this
    rw [← Array.getElem?_toList, this]
    simp [List.getElem?_eq_getElem hi, List.getD]
theorem Own.isB {B : Nat} {w : World} {v : Value} {zs : List Int} (h : Own B w v zs) : IsB w v zs := by
  rcases h.form with ⟨rfl, rfl⟩ | ⟨g, c, cur, rfl, h1, h2, _, h3, _, h4⟩
  · exact ⟨by simp, h.1, none, 0, rfl, by simp, by simp, .inl rfl⟩
  · refine ⟨by omega, h.1, _, c, rfl, h1, h2, .inr ⟨g, 0, rfl, fun i hi => ?_⟩⟩
    rw [cell_of h3, Nat.zero_add]; exact h4 i hi
theorem own_new (w : World) (C : Array Value) (zs : List Int) (g n : Nat) (hg : g = w.heap.size) (hn : n = zs.length) (hC : C = (zs.map (Value.int .u8)).toArray) (hb : Byt zs) (hm : zs.length ≤ maxLen) : Own w.heap.size (w.alloc (.cells C 5)) (.slice (some ⟨g, 0, none⟩) n n) zs := by
  subst hg hn hC
  refine ⟨hb, by simp, .inr ⟨_, _, _, rfl, Nat.le_refl _, new_block w _, Nat.le_refl _, hm, by simp, by simp only []; exact List.take_of_length_le (by simp)⟩⟩
theorem IsB.slice {w : World} {v : Value} {zs : List Int} (h : IsB w v zs) : ∃ a c, v = .slice a zs.length c := by obtain ⟨_, _, a, c, e, _⟩ := h; exact ⟨a, c, e⟩
theorem IsB.byt {w : World} {v : Value} {zs : List Int} (h : IsB w v zs) : Byt zs := h.2.1
theorem IsB.keep {w w' : World} {v : Value} {zs : List Int} (h : IsB w v zs) (hk : ∀ b o u, v.ownBlock = some b → w.cell? ⟨b, o, none⟩ = some u → w'.cell? ⟨b, o, none⟩ = some u) : IsB w' v zs := by
  obtain ⟨h1, h2, a, cap, rfl, h4, h5, h3⟩ := h
  refine ⟨h1, h2, a, cap, rfl, h4, h5, ?_⟩
  rcases h3 with h3 | ⟨b, off, rfl, hc⟩
  · exact .inl h3
  · exact .inr ⟨b, off, rfl, fun i hi => hk b _ _ rfl (hc i hi)⟩
theorem cell_block {w w' : World} {b o : Nat} (h : w'.heap[b]? = w.heap[b]?) : w'.cell? ⟨b, o, none⟩ = w.cell? ⟨b, o, none⟩ := by simp [World.cell?, h]
theorem IsB.block {w w' : World} {v : Value} {zs : List Int} (h : IsB w v zs) (hk : ∀ b, v.ownBlock = some b → b < w.heap.size → w'.heap[b]? = w.heap[b]?) : IsB w' v zs :=
  h.keep fun b o _ hb hu => (cell_block (hk b hb (World.block_lt_of_cell? w ⟨b, o, none⟩ hu))).trans hu
/-- the cells of a slice over bytes. -/
theorem IsB.at {w : World} {a : Option Addr} {n c : Nat} {zs : List Int} (h : IsB w (.slice a n c) zs) : n = zs.length ∧ n ≤ c ∧ c ≤ maxLen ∧ (0 < n → ∃ b off, a = some ⟨b, off, none⟩ ∧ ∀ i, i < n → w.cell? ⟨b, off + i, none⟩ = some (.int .u8 (zs.getD i 0))) := by
  obtain ⟨h1, h2, a', c', e, h4, h5, h3⟩ := h
  cases e
  refine ⟨rfl, h4, h5, fun hn => ?_⟩
  rcases h3 with h3 | h3
  · subst h3; simp at hn
  · exact h3
theorem IsB.bound {w : World} {a : Option Addr} {n c : Nat} {zs : List Int} (h : IsB w (.slice a n c) zs) : n = zs.length ∧ n ≤ c ∧ c ≤ 9223372036854775807 := by
  obtain ⟨h1, h2, h3, _⟩ := h.at
  unfold maxLen at h3
  omega
/-- a piece of a slice. -/
theorem IsB.part {w : World} {b off n c : Nat} {zs : List Int} (h : IsB w (.slice (some ⟨b, off, none⟩) n c) zs) (i j : Nat) (hij : i ≤ j) (hj : j ≤ n) (m d : Nat) (hm : m = j - i) (hd : m ≤ d) (hd2 : d ≤ maxLen) : IsB w (.slice (some ⟨b, off + i, none⟩) m d) ((zs.drop i).take m) := by
  obtain ⟨h1, h2, h3, h4⟩ := h.at
  have hl : ((zs.drop i).take m).length = m := by simp; omega
  refine ⟨by omega, (h.byt.drop i).take m, _, d, by rw [hl], by omega, hd2, ?_⟩
  rw [hl]
  by_cases hm0 : m = 0
  · left; exact List.eq_nil_of_length_eq_zero (by omega)
  · right
    obtain ⟨b', off', e, hc⟩ := h4 (by omega)
    cases e
    refine ⟨_, _, rfl, fun k hk => ?_⟩
    have := hc (i + k) (by omega)
    rw [Nat.add_assoc, this]
    congr 2
    simp [List.getD, List.getElem?_take_of_lt hk]
theorem wpList_append_run {P : Program} (w : World) {ops : Array Oper} {rest : List Oper} {o : Oper} {a : Act} {Q : Exit → Act → World → Prop} (hgd : o.guard = none) (s x : Operand) (t : TypeId)
    (ho : o.op = .call { callee := .builtin .append, args := #[s, x], argTypes := #[t, t] }) (v v2 v' : Value) (w' : World) (hs : a.eval s = v) (hx : a.eval x = v2) (hrun : ∀ ty, (Builtin.append_ #[t, t] ty #[v, v2]).run P w = .ok v' w')
    (h : wpList P ops Q rest (a.put o.dst v') w') : wpList P ops Q (o :: rest) a w := by
  refine wpList_plain hgd fun K hK => ?_
  unfold Oper.wp execOp
  simp only [ho, resolve, invoke, builtin, Sem.run_bind, Sem.run_pure, Result.andThen_ok, List.map_toArray, List.map_cons, List.map_nil, hs, hx, hrun]
  exact hK _ _ h
theorem bytesInfo : (Tryz.prog.info? 5).map (fun i => (i.zero, i.size, i.bytes)) = some (some (.int .u8 0), 1, 1) := by kernel_rfl
/-- append of bytes to a row of one's own. -/
theorem app_run {w : World} {base : Nat} {v v2 : Value} {b bs : List Int} (hr : Own base w v b) (h2 : IsB w v2 bs) (hl : b.length + bs.length ≤ 140737488355328) (hb : base ≤ w.heap.size) :
    ∃ a' c' w', (∀ ty, (Builtin.append_ #[89, 89] ty #[v, v2]).run Tryz.prog w = .ok (.slice a' (b.length + bs.length) c') w') ∧ Own base w' (.slice a' (b.length + bs.length) c') (b ++ bs) ∧ w.grownBy w' v.ownBlock ∧
      ((Value.slice a' (b.length + bs.length) c').ownBlock = v.ownBlock ∨ (Value.slice a' (b.length + bs.length) c').ownBlock = some w.heap.size) := by
  obtain ⟨i0, hi, hz0, hz1, hz2⟩ := info_parts bytesInfo
  have some_case : ∀ (ad : Addr) (c : Nat), v2 = .slice (some ad) bs.length c → (∀ j u, (bs.map (Value.int .u8))[j]? = some u → w.cell? (ad.add j) = some u) → ∃ a' c' w', (∀ ty, (Builtin.append_ #[89, 89] ty #[v, v2]).run Tryz.prog w = .ok (.slice a' (b.length + bs.length) c') w') ∧ Own base w' (.slice a' (b.length + bs.length) c') (b ++ bs) ∧ w.grownBy w' v.ownBlock ∧
      ((Value.slice a' (b.length + bs.length) c').ownBlock = v.ownBlock ∨ (Value.slice a' (b.length + bs.length) c').ownBlock = some w.heap.size) := by
    intro ad c e hcells
    subst e
    obtain ⟨v', w', hrun, h3, h4, _, h5⟩ := run_append_own_at (P := Tryz.prog) w base 89 0 5 i0 (.int .u8 0) 1 1 Tryz.underlying89 hi hz0 hz1 hz2 rfl (by decide) v b.length (b.map (Value.int .u8)) hr.2 ad bs.length c (bs.map (Value.int .u8)) (by simp) hcells (by intro u hu; obtain ⟨x, _, rfl⟩ := List.mem_map.1 hu; rfl) (by unfold maxLen; omega) (by omega) hb
    obtain ⟨a', c', rfl⟩ := row_slice h3
    refine ⟨a', c', w', fun ty => hrun, ⟨hr.1.app h2.byt, ?_⟩, h4, h5⟩
    simpa using h3
  obtain ⟨hm, hzb, a, c, hv, _, _, hc⟩ := h2
  rcases hc with rfl | ⟨g, off, rfl, hc⟩
  · cases a with
    | some ad => exact some_case ad c hv (by simp)
    | none =>
      subst hv
      obtain ⟨av, cv, e⟩ := hr.slice
      have hcap : b.length ≤ cv := by
        rcases hr.form with ⟨e1, rfl⟩ | ⟨g, c', cur, e1, h1, _⟩
        · simp
        · rw [e1] at e; cases e; exact h1
      have ht := Tryz.underlying89
      refine ⟨av, cv, w, fun ty => ?_, ?_, ⟨rfl, rfl, rfl, Nat.le_refl _, fun _ _ _ => rfl⟩, .inl ?_⟩
      · rw [e]
        cases av <;> simp [Builtin.append_, run_underlying ht, sizeOf, typeInfo, hi, Builtin.lenOf, Builtin.firstCells, loadCells, hcap, storeCells, Result.andThen]
      · rw [e] at hr; simpa using hr
      · rw [e]; simp
  · refine some_case ⟨g, off, none⟩ c hv fun j u hu => ?_
    have hj : j < bs.length := by have := (List.getElem?_eq_some_iff.1 hu).1; simpa using this
    rw [Addr.add_lit, hc j hj, ← hu]
    simp [List.getD, List.getElem?_eq_getElem hj]
/-- .. below what it owns all stays. -/
theorem app_low {base : Nat} {w w' : World} {v : Value} {b : List Int} (hr : Own base w v b) (hb : base ≤ w.heap.size) (hg : w.grownBy w' v.ownBlock) : Below base w w' :=
  ⟨hg.os, hg.tape, hg.output, hg.size, fun k hk => hg.block k (by omega) fun e => by have := (hr.lt e.symm).1; omega⟩
/-- append of bytes that the call lays itself (b = append(b, x)). -/
theorem push_run {w : World} {base : Nat} {v : Value} {b : List Int} (hr : Own base w v b) (z : Int) (hz : 0 ≤ z ∧ z < 256) (hl : b.length + 1 ≤ 140737488355328) (hb : base ≤ w.heap.size) :
    ∃ a' c' w', (∀ ty, (Builtin.append_ #[89, 89] ty #[v, .slice (some ⟨w.heap.size, 0, none⟩) 1 1]).run Tryz.prog (w.alloc (.cells #[.int .u8 z] 5)) = .ok (.slice a' (b.length + 1) c') w') ∧ Own base w' (.slice a' (b.length + 1) c') (b ++ [z]) ∧ Below base w w' := by
  have hn : Own w.heap.size (w.alloc (.cells #[.int .u8 z] 5)) (.slice (some ⟨w.heap.size, 0, none⟩) 1 1) [z] := own_new w _ [z] _ _ rfl rfl rfl (fun x hx => by simp at hx; subst hx; exact hz) (by unfold maxLen; simp)
  have hr' := hr.below (alloc_below w (.cells #[.int .u8 z] 5))
  obtain ⟨a', c', w', h1, h2, h3, _⟩ := app_run hr' hn.isB hl (by simp; omega)
  exact ⟨a', c', w', h1, h2, ((Below.refl base w).alloc hb _).trans (app_low hr' (by simp; omega) h3)⟩
theorem kept_set {F : Nat → Prop} (w : World) (b o : Nat) (v : Value) (hb : F b) : Kept F w (w.setCell ⟨b, o, none⟩ v) :=
  ⟨rfl, rfl, rfl, by rw [size_set]; exact Nat.le_refl _, fun k _ hn => heap_set w b o v k fun e => hn (e ▸ hb)⟩
theorem below_drewN {w w' : World} {B n : Nat} (h : Below B w w') : Below B w (w'.drewN n) := h.trans ⟨rfl, rfl, rfl, Nat.le_refl _, fun _ _ => rfl⟩
theorem below_drew {w w' : World} {B : Nat} (h : Below B w w') : Below B w w'.drew := h.trans ⟨rfl, rfl, rfl, Nat.le_refl _, fun _ _ => rfl⟩
theorem oct_str (zs : List Int) : strOfNums zs = ⟨(byts zs).toArray⟩ := by
  have h : (strOfNums zs).data.toList = byts zs := by rw [strOfNums_data]; rfl
  have h2 : (strOfNums zs).data = (byts zs).toArray := by rw [← Array.toArray_toList (xs := (strOfNums zs).data), h]
  cases hx : strOfNums zs with
  | mk d => rw [hx] at h2; simp only at h2; rw [h2]
/-- string(b). -/
theorem conv_str {w : World} {v : Value} {zs : List Int} (h : IsB w v zs) : (convert 89 9 v).run Tryz.prog w = .ok (.string ⟨(byts zs).toArray⟩) w := by
  rw [← oct_str]
  obtain ⟨_, _, a, c, rfl, _, _, h2⟩ := h
  rcases h2 with rfl | ⟨b, off, rfl, hc⟩
  · cases a with
    | none => exact run_convert_bytes_nil w 89 5 Tryz.underlying89 Tryz.underlying5 0 c 9 Tryz.underlying9
    | some ad =>
      have e := run_convert_bytes_string (P := Tryz.prog) w 89 9 5 (some ad) 0 c Tryz.underlying89 Tryz.underlying5 Tryz.underlying9
      have e2 := run_bytesToString (P := Tryz.prog) w ad 0 c [] (by simp [loadCells, loadCellsFrom])
      show (convert 89 9 (.slice (some ad) 0 c)).run Tryz.prog w = _
      rw [e, e2]; rfl
  · exact run_convert_bytes_arg (P := Tryz.prog) w 89 5 Tryz.underlying89 Tryz.underlying5 b off zs.length c zs rfl hc 9 Tryz.underlying9
end Go.Proofs.YtjhodmpgggaknaaGreatDoor
/- Matchers in memory: slices, rows of one's own, what append makes. -/
namespace Go.Proofs.YtjhodmpgggaknaaGreatDoor.Mat
open Go.RowKit

/-- an Op in its cell. -/
def opv (o : UInt8) : Value := .int .u8 (o.toNat : Int)
/-- three cells a matcher. -/
def cellsM (l : List Mt) : List Value := l.flatMap fun x => [str x.1, opv x.2.1, str x.2.2]
theorem cellsM_cons (x : Mt) (l : List Mt) : cellsM (x :: l) = str x.1 :: opv x.2.1 :: str x.2.2 :: cellsM l := rfl
theorem cellsM_app (l m : List Mt) : cellsM (l ++ m) = cellsM l ++ cellsM m := by simp [cellsM]
theorem cellsM_len : ∀ (l : List Mt), (cellsM l).length = l.length * 3
  | [] => rfl
  | x :: l => by rw [cellsM_cons, List.length_cons, List.length_cons, List.length_cons, List.length_cons, cellsM_len l]; omega
theorem cellsM_at : ∀ (l : List Mt) (i : Nat) (x : Mt), l[i]? = some x → (cellsM l)[i * 3]? = some (str x.1) ∧ (cellsM l)[i * 3 + 1]? = some (opv x.2.1) ∧ (cellsM l)[i * 3 + 2]? = some (str x.2.2)
  | [], i, x, h => by simp at h
  | y :: l, 0, x, h => by simp at h; subst h; exact ⟨rfl, rfl, rfl⟩
  | y :: l, i + 1, x, h => by
    have := cellsM_at l i x (by simpa using h)
    rw [cellsM_cons, show (i + 1) * 3 = i * 3 + 1 + 1 + 1 by omega, show i * 3 + 1 + 1 + 1 + 1 = (i * 3 + 1) + 1 + 1 + 1 by omega, show i * 3 + 1 + 1 + 1 + 2 = (i * 3 + 2) + 1 + 1 + 1 by omega]
    simpa using this
theorem cellsM_inv : ∀ (l : List Mt) (j : Nat) (u : Value), (cellsM l)[j]? = some u → ∃ i x, l[i]? = some x ∧ ((j = i * 3 ∧ u = str x.1) ∨ (j = i * 3 + 1 ∧ u = opv x.2.1) ∨ (j = i * 3 + 2 ∧ u = str x.2.2))
  | [], j, u, h => by simp [cellsM] at h
  | y :: l, 0, u, h => by rw [cellsM_cons] at h; simp at h; exact ⟨0, y, rfl, .inl ⟨rfl, h.symm⟩⟩
  | y :: l, 1, u, h => by rw [cellsM_cons] at h; simp at h; exact ⟨0, y, rfl, .inr (.inl ⟨rfl, h.symm⟩)⟩
  | y :: l, 2, u, h => by rw [cellsM_cons] at h; simp at h; exact ⟨0, y, rfl, .inr (.inr ⟨rfl, h.symm⟩)⟩
  | y :: l, j + 3, u, h => by
    rw [cellsM_cons] at h
    obtain ⟨i, x, h1, h2⟩ := cellsM_inv l j u (by simpa using h)
    refine ⟨i + 1, x, by simpa using h1, ?_⟩
    rcases h2 with h | h | h
    · exact .inl ⟨by omega, h.2⟩
    · exact .inr (.inl ⟨by omega, h.2⟩)
    · exact .inr (.inr ⟨by omega, h.2⟩)
/-- texts that are not too long. -/
def MidM (l : List Mt) : Prop := ∀ x ∈ l, x.1.length ≤ maxLen ∧ x.2.2.length ≤ maxLen
theorem MidM.app {l m : List Mt} (h : MidM l) (k : MidM m) : MidM (l ++ m) := fun x hx => (List.mem_append.1 hx).elim (h x) (k x)
theorem MidM.part {l : List Mt} (h : MidM l) (i j : Nat) : MidM ((l.drop i).take j) := fun x hx => h x (List.mem_of_mem_drop (List.mem_of_mem_take hx))
/-- a slice's value over matchers. -/
def IsMs (w : World) (v : Value) (l : List Mt) : Prop :=
  l.length ≤ maxLen ∧ MidM l ∧ ∃ a c, v = .slice a l.length c ∧ l.length ≤ c ∧ c ≤ maxLen ∧ (l = [] ∨ ∃ b off, a = some ⟨b, off, none⟩ ∧ ∀ i x, l[i]? = some x → w.cell? ⟨b, off + i * 3, none⟩ = some (str x.1) ∧ w.cell? ⟨b, off + i * 3 + 1, none⟩ = some (opv x.2.1) ∧ w.cell? ⟨b, off + i * 3 + 2, none⟩ = some (str x.2.2))
theorem IsMs.slice {w : World} {v : Value} {l : List Mt} (h : IsMs w v l) : ∃ a c, v = .slice a l.length c := by obtain ⟨_, _, a, c, e, _⟩ := h; exact ⟨a, c, e⟩
theorem IsMs.keep {w w' : World} {v : Value} {l : List Mt} (h : IsMs w v l) (hk : ∀ b o u, v.ownBlock = some b → w.cell? ⟨b, o, none⟩ = some u → w'.cell? ⟨b, o, none⟩ = some u) : IsMs w' v l := by
  obtain ⟨h1, h2, a, c, rfl, h4, h5, h3⟩ := h
  refine ⟨h1, h2, a, c, rfl, h4, h5, h3.imp id ?_⟩
  rintro ⟨b, off, rfl, hc⟩
  exact ⟨b, off, rfl, fun i x hx => ⟨hk b _ _ rfl (hc i x hx).1, hk b _ _ rfl (hc i x hx).2.1, hk b _ _ rfl (hc i x hx).2.2⟩⟩
theorem IsMs.block {w w' : World} {v : Value} {l : List Mt} (h : IsMs w v l) (hk : ∀ b, v.ownBlock = some b → b < w.heap.size → w'.heap[b]? = w.heap[b]?) : IsMs w' v l :=
  h.keep fun b o _ hb hu => (cell_block (hk b hb (World.block_lt_of_cell? w ⟨b, o, none⟩ hu))).trans hu
theorem IsMs.below {w w' : World} {v : Value} {l : List Mt} (h : IsMs w v l) (hb : Below w.heap.size w w') : IsMs w' v l := h.block fun b _ hl => hb.block b hl
theorem IsMs.bound {w : World} {a : Option Addr} {n c : Nat} {l : List Mt} (h : IsMs w (.slice a n c) l) : n = l.length ∧ n ≤ c ∧ c ≤ 9223372036854775807 := by
  obtain ⟨h1, h2, a', c', e, h4, h5, _⟩ := h
  cases e
  unfold maxLen at h5
  exact ⟨rfl, h4, h5⟩
theorem IsMs.mid {w : World} {v : Value} {l : List Mt} (h : IsMs w v l) {k : Nat} {x : Mt} (hk : l[k]? = some x) : x.1.length ≤ 9223372036854775807 ∧ x.2.2.length ≤ 9223372036854775807 := by
  have := h.2.1 x (List.mem_of_getElem? hk)
  unfold maxLen at this
  exact this
theorem IsMs.at {w : World} {a : Option Addr} {n c : Nat} {l : List Mt} (h : IsMs w (.slice a n c) l) {k : Nat} (hk : k < l.length) : ∃ b off, a = some ⟨b, off, none⟩ ∧ ∀ i x, l[i]? = some x → w.cell? ⟨b, off + i * 3, none⟩ = some (str x.1) ∧ w.cell? ⟨b, off + i * 3 + 1, none⟩ = some (opv x.2.1) ∧ w.cell? ⟨b, off + i * 3 + 2, none⟩ = some (str x.2.2) := by
  obtain ⟨h1, h2, a', c', e, h4, h5, h3⟩ := h
  cases e
  rcases h3 with h3 | h3
  · subst h3; simp at hk
  · exact h3
/-- a piece. -/
theorem IsMs.part {w : World} {b off n c : Nat} {l : List Mt} (h : IsMs w (.slice (some ⟨b, off, none⟩) n c) l) (i j : Nat) (hij : i ≤ j) (hj : j ≤ n) (m d : Nat) (hm : m = j - i) (hd : m ≤ d) (hd2 : d ≤ maxLen) : IsMs w (.slice (some ⟨b, off + i * 3, none⟩) m d) ((l.drop i).take m) := by
  obtain ⟨hn, h2, h3⟩ := h.bound
  have hl : ((l.drop i).take m).length = m := by simp; omega
  refine ⟨by rw [hl]; omega, h.2.1.part i m, _, d, by rw [hl], by omega, hd2, ?_⟩
  by_cases hm0 : m = 0
  · left; exact List.eq_nil_of_length_eq_zero (by omega)
  · right
    obtain ⟨b', off', e, hc⟩ := h.at (k := 0) (by omega)
    cases e
    refine ⟨_, _, rfl, fun k x hx => ?_⟩
    have hkm : k < m := by have := (List.getElem?_eq_some_iff.1 hx).1; omega
    rw [List.getElem?_take_of_lt hkm, List.getElem?_drop] at hx
    have := hc (i + k) x hx
    rw [show off + i * 3 + k * 3 = off + (i + k) * 3 by omega]
    exact this
/-- a row of matchers of one's own, in a block from B on. -/
def OwnM (B : Nat) (w : World) (v : Value) (l : List Mt) : Prop := MidM l ∧ w.ownsRow B 33 3 v l.length (cellsM l)
theorem OwnM.slice {B : Nat} {w : World} {v : Value} {l : List Mt} (h : OwnM B w v l) : ∃ a c, v = .slice a l.length c := row_slice h.2
theorem OwnM.keep {B : Nat} {w w' : World} {v : Value} {l : List Mt} (h : OwnM B w v l) (hb : ∀ k, v.ownBlock = some k → w'.heap[k]? = w.heap[k]?) : OwnM B w' v l := ⟨h.1, ownsRow_block h.2 hb⟩
theorem OwnM.lt {B : Nat} {w : World} {v : Value} {l : List Mt} (h : OwnM B w v l) {k : Nat} (hk : v.ownBlock = some k) : B ≤ k ∧ k < w.heap.size := h.2.lt k hk
theorem OwnM.below {B : Nat} {w w' : World} {v : Value} {l : List Mt} (h : OwnM B w v l) (hb : Below w.heap.size w w') : OwnM B w' v l := h.keep fun k hk => hb.block k (h.lt hk).2
theorem OwnM.base {B B' : Nat} {w : World} {v : Value} {l : List Mt} (h : OwnM B w v l) (hB : B' ≤ B) : OwnM B' w v l := ⟨h.1, ownsRow_base h.2 fun _ hk => Nat.le_trans hB (h.lt hk).1⟩
theorem ownM_nil (B : Nat) (w : World) : OwnM B w (.slice none 0 0) [] := ⟨(by intro z hz; simp at hz), World.ownsRow_nil _ _ _ _⟩
theorem OwnM.form {B : Nat} {w : World} {v : Value} {l : List Mt} (h : OwnM B w v l) : (v = .slice none 0 0 ∧ l = []) ∨ ∃ (g c : Nat) (cur : Array Value), v = .slice (some ⟨g, 0, none⟩) l.length c ∧ l.length ≤ c ∧ c ≤ maxLen ∧ B ≤ g ∧ w.heap[g]? = some (.cells cur 33) ∧ cur.size = c * 3 ∧ ∀ (i : Nat) (u : Value), (cellsM l)[i]? = some u → cur[i]? = some u := by
  rcases h.2.2 with ⟨rfl, h0⟩ | ⟨g, cap, cur, rfl, hB, hg, h1, h2, h3, h4⟩
  · exact .inl ⟨rfl, List.eq_nil_of_length_eq_zero h0⟩
  · refine .inr ⟨g, cap, cur, rfl, h1, h2, hB, hg, h3, fun i u hu => ?_⟩
    rw [← h4] at hu
    have hi : i < l.length * 3 := by
      have := (List.getElem?_eq_some_iff.1 hu).1
      simp at this; omega
    rw [List.getElem?_take_of_lt hi] at hu
    rw [← Array.getElem?_toList]
    exact hu
theorem OwnM.isM {B : Nat} {w : World} {v : Value} {l : List Mt} (h : OwnM B w v l) : IsMs w v l := by
  rcases h.form with ⟨rfl, rfl⟩ | ⟨g, c, cur, rfl, h1, h2, _, h3, _, h4⟩
  · exact ⟨by simp, h.1, none, 0, rfl, by simp, by simp, .inl rfl⟩
  · refine ⟨by omega, h.1, _, c, rfl, h1, h2, .inr ⟨g, 0, rfl, fun i x hx => ?_⟩⟩
    obtain ⟨e1, e2, e3⟩ := cellsM_at l i x hx
    rw [cell_of h3, cell_of h3, cell_of h3, Nat.zero_add]
    exact ⟨h4 _ _ e1, h4 _ _ e2, h4 _ _ e3⟩
theorem matcherInfo : (Tryz.prog.info? 33).map (fun i => (i.zero, i.size, i.bytes)) = some (some (.agg #[.string ⟨#[]⟩, .int .u8 0, .string ⟨#[]⟩]), 3, 40) := by kernel_rfl
/-- append of matchers to a row of one's own. -/
theorem appM_run {w : World} {base : Nat} {v v2 : Value} {l m : List Mt} (hr : OwnM base w v l) (h2 : IsMs w v2 m) (hl : l.length + m.length ≤ 3000000000) (hb : base ≤ w.heap.size) :
    ∃ a' c' w', (∀ ty, (Builtin.append_ #[29, 29] ty #[v, v2]).run Tryz.prog w = .ok (.slice a' (l.length + m.length) c') w') ∧ OwnM base w' (.slice a' (l.length + m.length) c') (l ++ m) ∧ w.grownBy w' v.ownBlock ∧
      ((Value.slice a' (l.length + m.length) c').ownBlock = v.ownBlock ∨ (Value.slice a' (l.length + m.length) c').ownBlock = some w.heap.size) := by
  obtain ⟨i0, hi, hz0, hz1, hz2⟩ := info_parts matcherInfo
  have some_case : ∀ (ad : Addr) (c : Nat), v2 = .slice (some ad) m.length c → (∀ j u, (cellsM m)[j]? = some u → w.cell? (ad.add j) = some u) → ∃ a' c' w', (∀ ty, (Builtin.append_ #[29, 29] ty #[v, v2]).run Tryz.prog w = .ok (.slice a' (l.length + m.length) c') w') ∧ OwnM base w' (.slice a' (l.length + m.length) c') (l ++ m) ∧ w.grownBy w' v.ownBlock ∧
      ((Value.slice a' (l.length + m.length) c').ownBlock = v.ownBlock ∨ (Value.slice a' (l.length + m.length) c').ownBlock = some w.heap.size) := by
    intro ad c e hcells
    subst e
    obtain ⟨v', w', hrun, h3, h4, _, h5⟩ := run_append_own_at (P := Tryz.prog) w base 29 0 33 i0 (.agg #[.string ⟨#[]⟩, .int .u8 0, .string ⟨#[]⟩]) 3 40 Tryz.underlying29 hi hz0 hz1 hz2 rfl (by decide) v l.length (cellsM l) hr.2 ad m.length c (cellsM m) (cellsM_len m) hcells (by
      intro u hu
      obtain ⟨j, hj⟩ := List.mem_iff_getElem?.1 hu
      obtain ⟨_, x, _, h | h | h⟩ := cellsM_inv m j u hj
      · rw [h.2]; rfl
      · rw [h.2]; rfl
      · rw [h.2]; rfl) (by unfold maxLen; omega) (by omega) hb
    obtain ⟨a', c', rfl⟩ := row_slice h3
    refine ⟨a', c', w', fun ty => hrun, ⟨hr.1.app h2.2.1, ?_⟩, h4, h5⟩
    rw [cellsM_app, List.length_append]
    exact h3
  obtain ⟨hm, hzb, a, c, hv, _, _, hc⟩ := h2
  rcases hc with rfl | ⟨g, off, rfl, hc⟩
  · cases a with
    | some ad => exact some_case ad c hv (by intro j u hu; simp [cellsM] at hu)
    | none =>
      subst hv
      obtain ⟨av, cv, e⟩ := hr.slice
      have hcap : l.length ≤ cv := by
        rcases hr.form with ⟨e1, rfl⟩ | ⟨g, c', cur, e1, h1, _⟩
        · simp
        · rw [e1] at e; cases e; exact h1
      have ht := Tryz.underlying29
      refine ⟨av, cv, w, fun ty => ?_, ?_, ⟨rfl, rfl, rfl, Nat.le_refl _, fun _ _ _ => rfl⟩, .inl ?_⟩
      · rw [e]
        cases av <;> simp [Builtin.append_, run_underlying ht, sizeOf, typeInfo, hi, Builtin.lenOf, Builtin.firstCells, loadCells, hcap, storeCells, Result.andThen]
      · rw [e] at hr; simpa using hr
      · rw [e]; simp
  · refine some_case ⟨g, off, none⟩ c hv fun j u hu => ?_
    obtain ⟨i, x, hx, h | h | h⟩ := cellsM_inv m j u hu
    · rw [Addr.add_lit, h.1, h.2]
      exact (hc i x hx).1
    · rw [Addr.add_lit, h.1, h.2, ← Nat.add_assoc]
      exact (hc i x hx).2.1
    · rw [Addr.add_lit, h.1, h.2, ← Nat.add_assoc]
      exact (hc i x hx).2.2
theorem appM_low {base : Nat} {w w' : World} {v : Value} {l : List Mt} (hr : OwnM base w v l) (hb : base ≤ w.heap.size) (hg : w.grownBy w' v.ownBlock) : Below base w w' :=
  ⟨hg.os, hg.tape, hg.output, hg.size, fun k hk => hg.block k (by omega) fun e => by have := (hr.lt e.symm).1; omega⟩
theorem ownM_one (w : World) (n : Tx) (o : UInt8) (v : Tx) (hn : n.length ≤ maxLen) (hv : v.length ≤ maxLen) : OwnM w.heap.size (w.alloc (.cells #[str n, opv o, str v] 33)) (.slice (some ⟨w.heap.size, 0, none⟩) 1 1) [(n, o, v)] := by
  refine ⟨fun x hx => by simp at hx; subst hx; exact ⟨hn, hv⟩, by simp [cellsM], .inr ⟨_, _, _, rfl, Nat.le_refl _, new_block w _, Nat.le_refl _, by unfold maxLen; simp, by simp, by simp [cellsM]⟩⟩
/-- append of one matcher that the call lays itself. -/
theorem pushM_run {w : World} {base : Nat} {v : Value} {l : List Mt} (hr : OwnM base w v l) (n : Tx) (o : UInt8) (x : Tx) (hn : n.length ≤ maxLen) (hx : x.length ≤ maxLen) (hl : l.length + 1 ≤ 3000000000) (hb : base ≤ w.heap.size) :
    ∃ a' c' w', (∀ ty, (Builtin.append_ #[29, 29] ty #[v, .slice (some ⟨w.heap.size, 0, none⟩) 1 1]).run Tryz.prog (w.alloc (.cells #[str n, opv o, str x] 33)) = .ok (.slice a' (l.length + 1) c') w') ∧ OwnM base w' (.slice a' (l.length + 1) c') (l ++ [(n, o, x)]) ∧ Below base w w' := by
  have hr' := hr.below (alloc_below w (.cells #[str n, opv o, str x] 33))
  obtain ⟨a', c', w', h1, h2, h3, _⟩ := appM_run hr' (ownM_one w n o x hn hx).isM hl (by simp; omega)
  exact ⟨a', c', w', h1, h2, ((Below.refl base w).alloc hb _).trans (appM_low hr' (by simp; omega) h3)⟩
end Go.Proofs.YtjhodmpgggaknaaGreatDoor.Mat
