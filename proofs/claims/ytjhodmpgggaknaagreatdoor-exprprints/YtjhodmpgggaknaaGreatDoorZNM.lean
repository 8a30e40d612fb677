import Derived.Test.YtjhodmpgggaknaaGreatDoorZGR
import Derived.Test.YtjhodmpgggaknaaGreatDoorZGC
import Derived.Test.YtjhodmpgggaknaaGreatDoorZGE
/- Nodes in memory: slices, rows of one's own, what append makes. -/
namespace Go.Proofs.YtjhodmpgggaknaaGreatDoor
open Go.RowKit

def uv (o : UInt8) : Value := .int .u8 (o.toNat : Int)
def iv (x : Int) : Value := .int .i64 x
/-- eight cells a node; the select's slice is told beside it. -/
def ndv (p : Nd × Value) : List Value := [uv p.1.kind, uv p.1.agg, p.2, iv p.1.win, uv p.1.cmp, iv p.1.val, iv p.1.left, iv p.1.right]
def cellsZ (l : List (Nd × Value)) : List Value := l.flatMap ndv
theorem cellsZ_cons (p : Nd × Value) (l : List (Nd × Value)) : cellsZ (p :: l) = ndv p ++ cellsZ l := rfl
theorem cellsZ_app (l m : List (Nd × Value)) : cellsZ (l ++ m) = cellsZ l ++ cellsZ m := by simp [cellsZ]
theorem ndv_len (p : Nd × Value) : (ndv p).length = 8 := rfl
theorem cellsZ_len : ∀ (l : List (Nd × Value)), (cellsZ l).length = l.length * 8
  | [] => rfl
  | p :: l => by rw [cellsZ_cons, List.length_append, ndv_len, cellsZ_len l, List.length_cons]; omega
theorem cellsZ_at : ∀ (l : List (Nd × Value)) (i : Nat) (p : Nd × Value), l[i]? = some p → ∀ q, q < 8 → (cellsZ l)[i * 8 + q]? = (ndv p)[q]?
  | [], i, p, h, _, _ => by simp at h
  | y :: l, 0, p, h, q, hq => by
    simp at h; subst h
    rw [cellsZ_cons, List.getElem?_append_left (by rw [ndv_len]; omega), Nat.zero_mul, Nat.zero_add]
  | y :: l, i + 1, p, h, q, hq => by
    have := cellsZ_at l i p (by simpa using h) q hq
    rw [cellsZ_cons, List.getElem?_append_right (by rw [ndv_len]; omega), ndv_len, show (i + 1) * 8 + q - 8 = i * 8 + q by omega]
    exact this
theorem cellsZ_inv : ∀ (l : List (Nd × Value)) (j : Nat) (u : Value), (cellsZ l)[j]? = some u → ∃ i p q, l[i]? = some p ∧ q < 8 ∧ j = i * 8 + q ∧ (ndv p)[q]? = some u
  | [], j, u, h => by simp [cellsZ] at h
  | y :: l, j, u, h => by
    rw [cellsZ_cons] at h
    by_cases hj : j < 8
    · rw [List.getElem?_append_left (by rw [ndv_len]; omega)] at h
      exact ⟨0, y, j, rfl, hj, by omega, h⟩
    · rw [List.getElem?_append_right (by rw [ndv_len]; omega), ndv_len] at h
      obtain ⟨i, p, q, h1, h2, h3, h4⟩ := cellsZ_inv l (j - 8) u h
      exact ⟨i + 1, p, q, by simpa using h1, h2, by omega, h4⟩
theorem ndv_one {p : Nd × Value} (hp : p.2.oneCell' = true) {q : Nat} {u : Value} (h : (ndv p)[q]? = some u) : u.oneCell' = true := by
  match q, h with
  | 0, h => cases h; rfl
  | 1, h => cases h; rfl
  | 2, h => cases h; exact hp
  | 3, h => cases h; rfl
  | 4, h => cases h; rfl
  | 5, h => cases h; rfl
  | 6, h => cases h; rfl
  | 7, h => cases h; rfl
  | q + 8, h => simp [ndv] at h
/-- a slice's value over nodes. -/
def IsZ (w : World) (v : Value) (l : List (Nd × Value)) : Prop :=
  l.length ≤ maxLen ∧ ∃ a c, v = .slice a l.length c ∧ l.length ≤ c ∧ c ≤ maxLen ∧ (l = [] ∨ ∃ b off, a = some ⟨b, off, none⟩ ∧ ∀ i p, l[i]? = some p → ∀ q u, (ndv p)[q]? = some u → w.cell? ⟨b, off + i * 8 + q, none⟩ = some u)
def SelI (w : World) (l : List (Nd × Value)) : Prop := ∀ p ∈ l, Mat.IsMs w p.2 p.1.sel
def SelO (B : Nat) (w : World) (l : List (Nd × Value)) : Prop := ∀ p ∈ l, Mat.OwnM B w p.2 p.1.sel
theorem SelO.isI {B : Nat} {w : World} {l : List (Nd × Value)} (h : SelO B w l) : SelI w l := fun p hp => (h p hp).isM
theorem SelI.app {w : World} {l m : List (Nd × Value)} (h : SelI w l) (k : SelI w m) : SelI w (l ++ m) := fun p hp => (List.mem_append.1 hp).elim (h p) (k p)
theorem SelO.app {B : Nat} {w : World} {l m : List (Nd × Value)} (h : SelO B w l) (k : SelO B w m) : SelO B w (l ++ m) := fun p hp => (List.mem_append.1 hp).elim (h p) (k p)
theorem SelI.one {w : World} {l : List (Nd × Value)} (h : SelI w l) : ∀ p ∈ l, p.2.oneCell' = true := fun p hp => by
  obtain ⟨a, c, e⟩ := (h p hp).slice
  rw [e]; rfl
theorem SelI.below {w w' : World} {l : List (Nd × Value)} (h : SelI w l) (hb : Below w.heap.size w w') : SelI w' l := fun p hp => (h p hp).below hb
theorem SelO.below {B : Nat} {w w' : World} {l : List (Nd × Value)} (h : SelO B w l) (hb : Below w.heap.size w w') : SelO B w' l := fun p hp => (h p hp).below hb
theorem SelO.base {B B' : Nat} {w : World} {l : List (Nd × Value)} (h : SelO B w l) (hB : B' ≤ B) : SelO B' w l := fun p hp => (h p hp).base hB
/-- a row of matchers lies in a block of its kind. -/
theorem ownM_block {B : Nat} {w : World} {v : Value} {l : List Mat.Mt} (h : Mat.OwnM B w v l) {k : Nat} (hk : v.ownBlock = some k) : ∃ c, w.heap[k]? = some (.cells c 33) := by
  rcases h.form with ⟨rfl, rfl⟩ | ⟨g, c, cur, rfl, _, _, _, h3, _⟩
  · cases hk
  · cases hk; exact ⟨cur, h3⟩
/-- it stays where only blocks of other kinds are turned. -/
theorem SelO.keep {B : Nat} {w w' : World} {l : List (Nd × Value)} (h : SelO B w l) (hb : ∀ (k : Nat) (c : Array Value), w.heap[k]? = some (.cells c 33) → w'.heap[k]? = w.heap[k]?) : SelO B w' l := fun p hp => (h p hp).keep fun k hk => by
  obtain ⟨c, hc⟩ := ownM_block (h p hp) hk
  exact hb k c hc
theorem IsZ.slice {w : World} {v : Value} {l : List (Nd × Value)} (h : IsZ w v l) : ∃ a c, v = .slice a l.length c := by obtain ⟨_, a, c, e, _⟩ := h; exact ⟨a, c, e⟩
theorem IsZ.keep {w w' : World} {v : Value} {l : List (Nd × Value)} (h : IsZ w v l) (hk : ∀ b o u, v.ownBlock = some b → w.cell? ⟨b, o, none⟩ = some u → w'.cell? ⟨b, o, none⟩ = some u) : IsZ w' v l := by
  obtain ⟨h1, a, c, rfl, h4, h5, h3⟩ := h
  refine ⟨h1, a, c, rfl, h4, h5, h3.imp id ?_⟩
  rintro ⟨b, off, rfl, hc⟩
  exact ⟨b, off, rfl, fun i p hp q u hu => hk b _ _ rfl (hc i p hp q u hu)⟩
theorem IsZ.below {w w' : World} {v : Value} {l : List (Nd × Value)} (h : IsZ w v l) (hb : Below w.heap.size w w') : IsZ w' v l :=
  h.keep fun b o _ _ hu => (cell_block (hb.block b (World.block_lt_of_cell? w ⟨b, o, none⟩ hu))).trans hu
theorem IsZ.bound {w : World} {a : Option Addr} {n c : Nat} {l : List (Nd × Value)} (h : IsZ w (.slice a n c) l) : n = l.length ∧ n ≤ c ∧ c ≤ 9223372036854775807 := by
  obtain ⟨h1, a', c', e, h4, h5, _⟩ := h
  cases e
  unfold maxLen at h5
  exact ⟨rfl, h4, h5⟩
theorem IsZ.at {w : World} {a : Option Addr} {n c : Nat} {l : List (Nd × Value)} (h : IsZ w (.slice a n c) l) {k : Nat} (hk : k < l.length) : ∃ b off, a = some ⟨b, off, none⟩ ∧ ∀ i p, l[i]? = some p → ∀ q u, (ndv p)[q]? = some u → w.cell? ⟨b, off + i * 8 + q, none⟩ = some u := by
  obtain ⟨h1, a', c', e, h4, h5, h3⟩ := h
  cases e
  rcases h3 with h3 | h3
  · subst h3; simp at hk
  · exact h3
/-- the eight cells. -/
structure Cells8 (w : World) (b o : Nat) (x : Nd) (s : Value) : Prop where
  c0 : w.cell? ⟨b, o, none⟩ = some (.int .u8 (x.kind.toNat : Int))
  c1 : w.cell? ⟨b, o + 1, none⟩ = some (.int .u8 (x.agg.toNat : Int))
  c2 : w.cell? ⟨b, o + 2, none⟩ = some s
  c3 : w.cell? ⟨b, o + 3, none⟩ = some (.int .i64 x.win)
  c4 : w.cell? ⟨b, o + 4, none⟩ = some (.int .u8 (x.cmp.toNat : Int))
  c5 : w.cell? ⟨b, o + 5, none⟩ = some (.int .i64 x.val)
  c6 : w.cell? ⟨b, o + 6, none⟩ = some (.int .i64 x.left)
  c7 : w.cell? ⟨b, o + 7, none⟩ = some (.int .i64 x.right)
theorem cells8 {w : World} {b o : Nat} {x : Nd} {s : Value} (h : ∀ q u, (ndv (x, s))[q]? = some u → w.cell? ⟨b, o + q, none⟩ = some u) : Cells8 w b o x s :=
  ⟨h 0 _ rfl, h 1 _ rfl, h 2 _ rfl, h 3 _ rfl, h 4 _ rfl, h 5 _ rfl, h 6 _ rfl, h 7 _ rfl⟩
/-- a piece. -/
theorem IsZ.part {w : World} {b off n c : Nat} {l : List (Nd × Value)} (h : IsZ w (.slice (some ⟨b, off, none⟩) n c) l) (i j : Nat) (hij : i ≤ j) (hj : j ≤ n) (m d : Nat) (hm : m = j - i) (hd : m ≤ d) (hd2 : d ≤ maxLen) : IsZ w (.slice (some ⟨b, off + i * 8, none⟩) m d) ((l.drop i).take m) := by
  obtain ⟨hn, h2, h3⟩ := h.bound
  have hl : ((l.drop i).take m).length = m := by simp; omega
  refine ⟨by rw [hl]; omega, _, d, by rw [hl], by omega, hd2, ?_⟩
  by_cases hm0 : m = 0
  · left; exact List.eq_nil_of_length_eq_zero (by omega)
  · right
    obtain ⟨b', off', e, hc⟩ := h.at (k := 0) (by omega)
    cases e
    refine ⟨_, _, rfl, fun k x hx q u hu => ?_⟩
    have hkm : k < m := by have := (List.getElem?_eq_some_iff.1 hx).1; omega
    rw [List.getElem?_take_of_lt hkm, List.getElem?_drop] at hx
    have := hc (i + k) x hx q u hu
    rw [show off + i * 8 + k * 8 + q = off + (i + k) * 8 + q by omega]
    exact this
/-- a row of nodes of one's own, in a block from B on. -/
def OwnZ (B : Nat) (w : World) (v : Value) (l : List (Nd × Value)) : Prop := w.ownsRow B 31 8 v l.length (cellsZ l)
theorem OwnZ.slice {B : Nat} {w : World} {v : Value} {l : List (Nd × Value)} (h : OwnZ B w v l) : ∃ a c, v = .slice a l.length c := row_slice h
theorem OwnZ.keep {B : Nat} {w w' : World} {v : Value} {l : List (Nd × Value)} (h : OwnZ B w v l) (hb : ∀ k, v.ownBlock = some k → w'.heap[k]? = w.heap[k]?) : OwnZ B w' v l := ownsRow_block h hb
theorem OwnZ.lt {B : Nat} {w : World} {v : Value} {l : List (Nd × Value)} (h : OwnZ B w v l) {k : Nat} (hk : v.ownBlock = some k) : B ≤ k ∧ k < w.heap.size := World.ownsRow.lt h k hk
theorem OwnZ.below {B : Nat} {w w' : World} {v : Value} {l : List (Nd × Value)} (h : OwnZ B w v l) (hb : Below w.heap.size w w') : OwnZ B w' v l := h.keep fun k hk => hb.block k (h.lt hk).2
theorem OwnZ.base {B B' : Nat} {w : World} {v : Value} {l : List (Nd × Value)} (h : OwnZ B w v l) (hB : B' ≤ B) : OwnZ B' w v l := ownsRow_base h fun _ hk => Nat.le_trans hB (h.lt hk).1
theorem ownZ_nil (B : Nat) (w : World) : OwnZ B w (.slice none 0 0) [] := World.ownsRow_nil _ _ _ _
theorem OwnZ.form {B : Nat} {w : World} {v : Value} {l : List (Nd × Value)} (h : OwnZ B w v l) : (v = .slice none 0 0 ∧ l = []) ∨ ∃ (g c : Nat) (cur : Array Value), v = .slice (some ⟨g, 0, none⟩) l.length c ∧ l.length ≤ c ∧ c ≤ maxLen ∧ B ≤ g ∧ w.heap[g]? = some (.cells cur 31) ∧ cur.size = c * 8 ∧ ∀ (i : Nat) (u : Value), (cellsZ l)[i]? = some u → cur[i]? = some u := by
  rcases h.2 with ⟨rfl, h0⟩ | ⟨g, cap, cur, rfl, hB, hg, h1, h2, h3, h4⟩
  · exact .inl ⟨rfl, List.eq_nil_of_length_eq_zero h0⟩
  · refine .inr ⟨g, cap, cur, rfl, h1, h2, hB, hg, h3, fun i u hu => ?_⟩
    rw [← h4] at hu
    have hi : i < l.length * 8 := by
      have := (List.getElem?_eq_some_iff.1 hu).1
      simp at this; omega
    rw [List.getElem?_take_of_lt hi] at hu
    rw [← Array.getElem?_toList]
    exact hu
theorem OwnZ.block {B : Nat} {w : World} {v : Value} {l : List (Nd × Value)} (h : OwnZ B w v l) {k : Nat} (hk : v.ownBlock = some k) : ∃ c, w.heap[k]? = some (.cells c 31) := by
  rcases h.form with ⟨rfl, rfl⟩ | ⟨g, c, cur, rfl, _, _, _, h3, _⟩
  · cases hk
  · cases hk; exact ⟨cur, h3⟩
theorem OwnZ.isZ {B : Nat} {w : World} {v : Value} {l : List (Nd × Value)} (h : OwnZ B w v l) : IsZ w v l := by
  rcases h.form with ⟨rfl, rfl⟩ | ⟨g, c, cur, rfl, h1, h2, _, h3, _, h4⟩
  · exact ⟨by simp, none, 0, rfl, by simp, by simp, .inl rfl⟩
  · refine ⟨by omega, _, c, rfl, h1, h2, .inr ⟨g, 0, rfl, fun i p hp q u hu => ?_⟩⟩
    have hq : q < 8 := by have := (List.getElem?_eq_some_iff.1 hu).1; rw [ndv_len] at this; exact this
    rw [cell_of h3, Nat.zero_add]
    exact h4 _ _ ((cellsZ_at l i p hp q hq).trans hu)
theorem nodeInfo : (Tryz.prog.info? 31).map (fun i => (i.zero, i.size, i.bytes)) = some (some (.agg #[.int .u8 0, .int .u8 0, .slice none 0 0, .int .i64 0, .int .u8 0, .int .i64 0, .int .i64 0, .int .i64 0]), 8, 72) := by kernel_rfl
/-- append of nodes to a row of one's own. -/
theorem appZ_run {w : World} {base : Nat} {v v2 : Value} {l m : List (Nd × Value)} (hr : OwnZ base w v l) (h2 : IsZ w v2 m) (hone : ∀ p ∈ m, p.2.oneCell' = true) (hl : l.length + m.length ≤ 1000000000) (hb : base ≤ w.heap.size) :
    ∃ a' c' w', (∀ ty, (Builtin.append_ #[22, 22] ty #[v, v2]).run Tryz.prog w = .ok (.slice a' (l.length + m.length) c') w') ∧ OwnZ base w' (.slice a' (l.length + m.length) c') (l ++ m) ∧ w.grownBy w' v.ownBlock ∧
      ((Value.slice a' (l.length + m.length) c').ownBlock = v.ownBlock ∨ (Value.slice a' (l.length + m.length) c').ownBlock = some w.heap.size) := by
  obtain ⟨i0, hi, hz0, hz1, hz2⟩ := info_parts nodeInfo
  have some_case : ∀ (ad : Addr) (c : Nat), v2 = .slice (some ad) m.length c → (∀ j u, (cellsZ m)[j]? = some u → w.cell? (ad.add j) = some u) → ∃ a' c' w', (∀ ty, (Builtin.append_ #[22, 22] ty #[v, v2]).run Tryz.prog w = .ok (.slice a' (l.length + m.length) c') w') ∧ OwnZ base w' (.slice a' (l.length + m.length) c') (l ++ m) ∧ w.grownBy w' v.ownBlock ∧
      ((Value.slice a' (l.length + m.length) c').ownBlock = v.ownBlock ∨ (Value.slice a' (l.length + m.length) c').ownBlock = some w.heap.size) := by
    intro ad c e hcells
    subst e
    obtain ⟨v', w', hrun, h3, h4, _, h5⟩ := run_append_own_at (P := Tryz.prog) w base 22 0 31 i0 (.agg #[.int .u8 0, .int .u8 0, .slice none 0 0, .int .i64 0, .int .u8 0, .int .i64 0, .int .i64 0, .int .i64 0]) 8 72 Tryz.underlying22 hi hz0 hz1 hz2 rfl (by decide) v l.length (cellsZ l) hr ad m.length c (cellsZ m) (cellsZ_len m) hcells (by
      intro u hu
      obtain ⟨j, hj⟩ := List.mem_iff_getElem?.1 hu
      obtain ⟨i, p, q, h1, _, _, h⟩ := cellsZ_inv m j u hj
      exact ndv_one (hone p (List.mem_of_getElem? h1)) h) (by unfold maxLen; omega) (by omega) hb
    obtain ⟨a', c', rfl⟩ := row_slice h3
    refine ⟨a', c', w', fun ty => hrun, ?_, h4, h5⟩
    unfold OwnZ
    rw [cellsZ_app, List.length_append]
    exact h3
  obtain ⟨hm, a, c, hv, _, _, hc⟩ := h2
  rcases hc with rfl | ⟨g, off, rfl, hc⟩
  · cases a with
    | some ad => exact some_case ad c hv (by intro j u hu; simp [cellsZ] at hu)
    | none =>
      subst hv
      obtain ⟨av, cv, e⟩ := hr.slice
      have hcap : l.length ≤ cv := by
        rcases hr.form with ⟨e1, rfl⟩ | ⟨g, c', cur, e1, h1, _⟩
        · simp
        · rw [e1] at e; cases e; exact h1
      have ht := Tryz.underlying22
      refine ⟨av, cv, w, fun ty => ?_, ?_, ⟨rfl, rfl, rfl, Nat.le_refl _, fun _ _ _ => rfl⟩, .inl ?_⟩
      · rw [e]
        cases av <;> simp [Builtin.append_, run_underlying ht, sizeOf, typeInfo, hi, Builtin.lenOf, Builtin.firstCells, loadCells, hcap, storeCells, Result.andThen]
      · rw [e] at hr; simpa using hr
      · rw [e]; simp
  · refine some_case ⟨g, off, none⟩ c hv fun j u hu => ?_
    obtain ⟨i, p, q, hp, _, rfl, h⟩ := cellsZ_inv m j u hu
    rw [Addr.add_lit, ← Nat.add_assoc]
    exact hc i p hp q u h
theorem ownZ_low {base : Nat} {w w' : World} {v : Value} {l : List (Nd × Value)} (hr : OwnZ base w v l) (hb : base ≤ w.heap.size) (hg : w.grownBy w' v.ownBlock) : Below base w w' :=
  ⟨hg.os, hg.tape, hg.output, hg.size, fun k hk => hg.block k (by omega) fun e => by have := (hr.lt e.symm).1; omega⟩
theorem ownZ_one (w : World) (x : Nd) (s : Value) : OwnZ w.heap.size (w.alloc (.cells #[.int .u8 (x.kind.toNat : Int), .int .u8 (x.agg.toNat : Int), s, .int .i64 x.win, .int .u8 (x.cmp.toNat : Int), .int .i64 x.val, .int .i64 x.left, .int .i64 x.right] 31)) (.slice (some ⟨w.heap.size, 0, none⟩) 1 1) [(x, s)] := by
  refine ⟨by simp [cellsZ, ndv], .inr ⟨_, _, _, rfl, Nat.le_refl _, new_block w _, Nat.le_refl _, by unfold maxLen; simp, by simp, by simp [cellsZ, ndv, uv, iv]⟩⟩
/-- append of one node that the call lays itself. -/
theorem pushZ_run {w : World} {base : Nat} {v : Value} {l : List (Nd × Value)} (hr : OwnZ base w v l) (x : Nd) (s : Value) (hs : s.oneCell' = true) (hl : l.length + 1 ≤ 1000000000) (hb : base ≤ w.heap.size) :
    ∃ a' c' w', (∀ ty, (Builtin.append_ #[22, 22] ty #[v, .slice (some ⟨w.heap.size, 0, none⟩) 1 1]).run Tryz.prog (w.alloc (.cells #[.int .u8 (x.kind.toNat : Int), .int .u8 (x.agg.toNat : Int), s, .int .i64 x.win, .int .u8 (x.cmp.toNat : Int), .int .i64 x.val, .int .i64 x.left, .int .i64 x.right] 31)) = .ok (.slice a' (l.length + 1) c') w') ∧ OwnZ base w' (.slice a' (l.length + 1) c') (l ++ [(x, s)]) ∧
      (w.alloc (.cells #[.int .u8 (x.kind.toNat : Int), .int .u8 (x.agg.toNat : Int), s, .int .i64 x.win, .int .u8 (x.cmp.toNat : Int), .int .i64 x.val, .int .i64 x.left, .int .i64 x.right] 31)).grownBy w' v.ownBlock ∧ ((Value.slice a' (l.length + 1) c').ownBlock = v.ownBlock ∨ (Value.slice a' (l.length + 1) c').ownBlock = some (w.heap.size + 1)) := by
  have hr' := hr.below (alloc_below w (.cells #[.int .u8 (x.kind.toNat : Int), .int .u8 (x.agg.toNat : Int), s, .int .i64 x.win, .int .u8 (x.cmp.toNat : Int), .int .i64 x.val, .int .i64 x.left, .int .i64 x.right] 31))
  obtain ⟨a', c', w', h1, h2, h3, h4⟩ := appZ_run hr' (ownZ_one w x s).isZ (by intro p hp; simp at hp; subst hp; exact hs) hl (by simp; omega)
  exact ⟨a', c', w', h1, h2, h3, by simpa using h4⟩

/-- nodes alone. -/
def IsN (w : World) (v : Value) (ns : List Nd) : Prop := ∃ z, z.map Prod.fst = ns ∧ IsZ w v z ∧ SelI w z
def OwnN (B : Nat) (w : World) (v : Value) (ns : List Nd) : Prop := ∃ z, z.map Prod.fst = ns ∧ OwnZ B w v z ∧ SelO B w z
theorem OwnN.isN {B : Nat} {w : World} {v : Value} {ns : List Nd} (h : OwnN B w v ns) : IsN w v ns := by
  obtain ⟨z, h1, h2, h3⟩ := h
  exact ⟨z, h1, h2.isZ, h3.isI⟩
theorem IsN.below {w w' : World} {v : Value} {ns : List Nd} (h : IsN w v ns) (hb : Below w.heap.size w w') : IsN w' v ns := by
  obtain ⟨z, h1, h2, h3⟩ := h
  exact ⟨z, h1, h2.below hb, h3.below hb⟩
theorem OwnN.below {B : Nat} {w w' : World} {v : Value} {ns : List Nd} (h : OwnN B w v ns) (hb : Below w.heap.size w w') : OwnN B w' v ns := by
  obtain ⟨z, h1, h2, h3⟩ := h
  exact ⟨z, h1, h2.below hb, h3.below hb⟩
theorem OwnN.base {B B' : Nat} {w : World} {v : Value} {ns : List Nd} (h : OwnN B w v ns) (hB : B' ≤ B) : OwnN B' w v ns := by
  obtain ⟨z, h1, h2, h3⟩ := h
  exact ⟨z, h1, h2.base hB, h3.base hB⟩
theorem ownN_nil (B : Nat) (w : World) : OwnN B w (.slice none 0 0) [] := ⟨[], rfl, ownZ_nil _ _, fun p hp => by cases hp⟩
theorem IsN.slice {w : World} {v : Value} {ns : List Nd} (h : IsN w v ns) : ∃ a c, v = .slice a ns.length c := by
  obtain ⟨z, rfl, h2, _⟩ := h
  obtain ⟨a, c, e⟩ := h2.slice
  exact ⟨a, c, by rw [e, List.length_map]⟩
theorem OwnN.slice {B : Nat} {w : World} {v : Value} {ns : List Nd} (h : OwnN B w v ns) : ∃ a c, v = .slice a ns.length c := h.isN.slice
theorem OwnN.lt {B : Nat} {w : World} {v : Value} {ns : List Nd} (h : OwnN B w v ns) {k : Nat} (hk : v.ownBlock = some k) : B ≤ k ∧ k < w.heap.size := by
  obtain ⟨z, _, h2, _⟩ := h
  exact h2.lt hk
theorem OwnN.block {B : Nat} {w : World} {v : Value} {ns : List Nd} (h : OwnN B w v ns) {k : Nat} (hk : v.ownBlock = some k) : ∃ c, w.heap[k]? = some (.cells c 31) := by
  obtain ⟨z, _, h2, _⟩ := h
  exact h2.block hk
theorem IsN.bound {w : World} {a : Option Addr} {n c : Nat} {ns : List Nd} (h : IsN w (.slice a n c) ns) : n = ns.length ∧ n ≤ c ∧ c ≤ 9223372036854775807 := by
  obtain ⟨z, rfl, h2, _⟩ := h
  obtain ⟨h3, h4, h5⟩ := h2.bound
  exact ⟨by rw [h3, List.length_map], h4, h5⟩
/-- a node's cells, and its select. -/
theorem IsN.at {w : World} {a : Option Addr} {n c : Nat} {ns : List Nd} (h : IsN w (.slice a n c) ns) {k : Nat} (hk : k < ns.length) : ∃ b off, a = some ⟨b, off, none⟩ ∧ ∀ i x, ns[i]? = some x → ∃ s, Cells8 w b (off + i * 8) x s ∧ Mat.IsMs w s x.sel := by
  obtain ⟨z, rfl, h2, h3⟩ := h
  obtain ⟨b, off, e, hc⟩ := h2.at (k := k) (by simpa using hk)
  refine ⟨b, off, e, fun i x hx => ?_⟩
  rw [List.getElem?_map] at hx
  cases hz : z[i]? with
  | none => rw [hz] at hx; cases hx
  | some p =>
    rw [hz] at hx
    cases hx
    exact ⟨p.2, cells8 (hc i p hz), h3 p (List.mem_of_getElem? hz)⟩
theorem IsN.part {w : World} {b off n c : Nat} {l : List Nd} (h : IsN w (.slice (some ⟨b, off, none⟩) n c) l) (i j : Nat) (hij : i ≤ j) (hj : j ≤ n) (m d : Nat) (hm : m = j - i) (hd : m ≤ d) (hd2 : d ≤ maxLen) : IsN w (.slice (some ⟨b, off + i * 8, none⟩) m d) ((l.drop i).take m) := by
  obtain ⟨z, rfl, h2, h3⟩ := h
  refine ⟨(z.drop i).take m, by simp [List.map_take, List.map_drop], h2.part i j hij hj m d hm hd hd2, fun p hp => h3 p (List.mem_of_mem_drop (List.mem_of_mem_take hp))⟩
end Go.Proofs.YtjhodmpgggaknaaGreatDoor
