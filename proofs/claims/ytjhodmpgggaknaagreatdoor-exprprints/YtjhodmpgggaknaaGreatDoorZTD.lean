import Derived.Test.YtjhodmpgggaknaaGreatDoorZGR
import Derived.Test.YtjhodmpgggaknaaGreatDoorZGB
import Derived.Test.YtjhodmpgggaknaaGreatDoorZGC
/- Tokens in memory: slices, rows of one's own, what append makes: the document's, with the place behind each. -/
namespace Go.Proofs.YtjhodmpgggaknaaGreatDoor
open Go.RowKit

/-- the place behind a token. -/
def Tk.end_ (x : Tk) : Nat := x.at_ + x.form.length
/-- four cells a token. -/
def cellsD (l : List Tk) : List Value := l.flatMap fun x => [kv x.kind, str x.text, nv x.at_, nv x.end_]
theorem cellsD_cons (x : Tk) (l : List Tk) : cellsD (x :: l) = kv x.kind :: str x.text :: nv x.at_ :: nv x.end_ :: cellsD l := rfl
theorem cellsD_app (l m : List Tk) : cellsD (l ++ m) = cellsD l ++ cellsD m := by simp [cellsD]
theorem cellsD_len : ∀ (l : List Tk), (cellsD l).length = l.length * 4
  | [] => rfl
  | x :: l => by rw [cellsD_cons, List.length_cons, List.length_cons, List.length_cons, List.length_cons, List.length_cons, cellsD_len l]; omega
theorem cellsD_at : ∀ (l : List Tk) (i : Nat) (x : Tk), l[i]? = some x → (cellsD l)[i * 4]? = some (kv x.kind) ∧ (cellsD l)[i * 4 + 1]? = some (str x.text) ∧ (cellsD l)[i * 4 + 2]? = some (nv x.at_) ∧ (cellsD l)[i * 4 + 3]? = some (nv x.end_)
  | [], i, x, h => by simp at h
  | y :: l, 0, x, h => by simp at h; subst h; exact ⟨rfl, rfl, rfl, rfl⟩
  | y :: l, i + 1, x, h => by
    have := cellsD_at l i x (by simpa using h)
    rw [cellsD_cons, show (i + 1) * 4 = i * 4 + 1 + 1 + 1 + 1 by omega, show i * 4 + 1 + 1 + 1 + 1 + 1 = (i * 4 + 1) + 1 + 1 + 1 + 1 by omega, show i * 4 + 1 + 1 + 1 + 1 + 2 = (i * 4 + 2) + 1 + 1 + 1 + 1 by omega, show i * 4 + 1 + 1 + 1 + 1 + 3 = (i * 4 + 3) + 1 + 1 + 1 + 1 by omega]
    simpa using this
theorem cellsD_inv : ∀ (l : List Tk) (j : Nat) (u : Value), (cellsD l)[j]? = some u → ∃ i x, l[i]? = some x ∧ ((j = i * 4 ∧ u = kv x.kind) ∨ (j = i * 4 + 1 ∧ u = str x.text) ∨ (j = i * 4 + 2 ∧ u = nv x.at_) ∨ (j = i * 4 + 3 ∧ u = nv x.end_))
  | [], j, u, h => by simp [cellsD] at h
  | y :: l, 0, u, h => by rw [cellsD_cons] at h; simp at h; exact ⟨0, y, rfl, .inl ⟨rfl, h.symm⟩⟩
  | y :: l, 1, u, h => by rw [cellsD_cons] at h; simp at h; exact ⟨0, y, rfl, .inr (.inl ⟨rfl, h.symm⟩)⟩
  | y :: l, 2, u, h => by rw [cellsD_cons] at h; simp at h; exact ⟨0, y, rfl, .inr (.inr (.inl ⟨rfl, h.symm⟩))⟩
  | y :: l, 3, u, h => by rw [cellsD_cons] at h; simp at h; exact ⟨0, y, rfl, .inr (.inr (.inr ⟨rfl, h.symm⟩))⟩
  | y :: l, j + 4, u, h => by
    rw [cellsD_cons] at h
    obtain ⟨i, x, h1, h2⟩ := cellsD_inv l j u (by simpa using h)
    refine ⟨i + 1, x, by simpa using h1, ?_⟩
    rcases h2 with h | h | h | h
    · exact .inl ⟨by omega, h.2⟩
    · exact .inr (.inl ⟨by omega, h.2⟩)
    · exact .inr (.inr (.inl ⟨by omega, h.2⟩))
    · exact .inr (.inr (.inr ⟨by omega, h.2⟩))
/-- a slice's value over tokens. -/
def IsDs (w : World) (v : Value) (l : List Tk) : Prop :=
  l.length ≤ maxLen ∧ MidT l ∧ ∃ a c, v = .slice a l.length c ∧ l.length ≤ c ∧ c ≤ maxLen ∧ (l = [] ∨ ∃ b off, a = some ⟨b, off, none⟩ ∧ ∀ i x, l[i]? = some x → w.cell? ⟨b, off + i * 4, none⟩ = some (kv x.kind) ∧ w.cell? ⟨b, off + i * 4 + 1, none⟩ = some (str x.text) ∧ w.cell? ⟨b, off + i * 4 + 2, none⟩ = some (nv x.at_) ∧ w.cell? ⟨b, off + i * 4 + 3, none⟩ = some (nv x.end_))
theorem IsDs.slice {w : World} {v : Value} {l : List Tk} (h : IsDs w v l) : ∃ a c, v = .slice a l.length c := by obtain ⟨_, _, a, c, e, _⟩ := h; exact ⟨a, c, e⟩
theorem IsDs.keep {w w' : World} {v : Value} {l : List Tk} (h : IsDs w v l) (hk : ∀ b o u, v.ownBlock = some b → w.cell? ⟨b, o, none⟩ = some u → w'.cell? ⟨b, o, none⟩ = some u) : IsDs w' v l := by
  obtain ⟨h1, h2, a, c, rfl, h4, h5, h3⟩ := h
  refine ⟨h1, h2, a, c, rfl, h4, h5, h3.imp id ?_⟩
  rintro ⟨b, off, rfl, hc⟩
  exact ⟨b, off, rfl, fun i x hx => ⟨hk b _ _ rfl (hc i x hx).1, hk b _ _ rfl (hc i x hx).2.1, hk b _ _ rfl (hc i x hx).2.2.1, hk b _ _ rfl (hc i x hx).2.2.2⟩⟩
theorem IsDs.block {w w' : World} {v : Value} {l : List Tk} (h : IsDs w v l) (hk : ∀ b, v.ownBlock = some b → b < w.heap.size → w'.heap[b]? = w.heap[b]?) : IsDs w' v l :=
  h.keep fun b o _ hb hu => (cell_block (hk b hb (World.block_lt_of_cell? w ⟨b, o, none⟩ hu))).trans hu
theorem IsDs.below {w w' : World} {v : Value} {l : List Tk} (h : IsDs w v l) (hb : Below w.heap.size w w') : IsDs w' v l := h.block fun b _ hl => hb.block b hl
theorem IsDs.bound {w : World} {a : Option Addr} {n c : Nat} {l : List Tk} (h : IsDs w (.slice a n c) l) : n = l.length ∧ n ≤ c ∧ c ≤ 9223372036854775807 := by
  obtain ⟨h1, h2, a', c', e, h4, h5, _⟩ := h
  cases e
  unfold maxLen at h5
  exact ⟨rfl, h4, h5⟩
theorem IsDs.mid {w : World} {v : Value} {l : List Tk} (h : IsDs w v l) {k : Nat} {x : Tk} (hk : l[k]? = some x) : x.text.length ≤ 9223372036854775807 := by
  have := h.2.1 x (List.mem_of_getElem? hk)
  unfold maxLen at this
  exact this
theorem IsDs.at {w : World} {a : Option Addr} {n c : Nat} {l : List Tk} (h : IsDs w (.slice a n c) l) {k : Nat} (hk : k < l.length) : ∃ b off, a = some ⟨b, off, none⟩ ∧ ∀ i x, l[i]? = some x → w.cell? ⟨b, off + i * 4, none⟩ = some (kv x.kind) ∧ w.cell? ⟨b, off + i * 4 + 1, none⟩ = some (str x.text) ∧ w.cell? ⟨b, off + i * 4 + 2, none⟩ = some (nv x.at_) ∧ w.cell? ⟨b, off + i * 4 + 3, none⟩ = some (nv x.end_) := by
  obtain ⟨h1, h2, a', c', e, h4, h5, h3⟩ := h
  cases e
  rcases h3 with h3 | h3
  · subst h3; simp at hk
  · exact h3
/-- a row of tokens of one's own, in a block from B on. -/
def OwnD (B : Nat) (w : World) (v : Value) (l : List Tk) : Prop := MidT l ∧ w.ownsRow B 50 4 v l.length (cellsD l)
theorem OwnD.slice {B : Nat} {w : World} {v : Value} {l : List Tk} (h : OwnD B w v l) : ∃ a c, v = .slice a l.length c := row_slice h.2
theorem OwnD.keep {B : Nat} {w w' : World} {v : Value} {l : List Tk} (h : OwnD B w v l) (hb : ∀ k, v.ownBlock = some k → w'.heap[k]? = w.heap[k]?) : OwnD B w' v l := ⟨h.1, ownsRow_block h.2 hb⟩
theorem OwnD.lt {B : Nat} {w : World} {v : Value} {l : List Tk} (h : OwnD B w v l) {k : Nat} (hk : v.ownBlock = some k) : B ≤ k ∧ k < w.heap.size := h.2.lt k hk
theorem OwnD.below {B : Nat} {w w' : World} {v : Value} {l : List Tk} (h : OwnD B w v l) (hb : Below w.heap.size w w') : OwnD B w' v l := h.keep fun k hk => hb.block k (h.lt hk).2
theorem OwnD.base {B B' : Nat} {w : World} {v : Value} {l : List Tk} (h : OwnD B w v l) (hB : B' ≤ B) : OwnD B' w v l := ⟨h.1, ownsRow_base h.2 fun _ hk => Nat.le_trans hB (h.lt hk).1⟩
theorem ownD_nil (B : Nat) (w : World) : OwnD B w (.slice none 0 0) [] := ⟨(by intro z hz; simp at hz), World.ownsRow_nil _ _ _ _⟩
theorem OwnD.form {B : Nat} {w : World} {v : Value} {l : List Tk} (h : OwnD B w v l) : (v = .slice none 0 0 ∧ l = []) ∨ ∃ (g c : Nat) (cur : Array Value), v = .slice (some ⟨g, 0, none⟩) l.length c ∧ l.length ≤ c ∧ c ≤ maxLen ∧ B ≤ g ∧ w.heap[g]? = some (.cells cur 50) ∧ cur.size = c * 4 ∧ ∀ (i : Nat) (u : Value), (cellsD l)[i]? = some u → cur[i]? = some u := by
  rcases h.2.2 with ⟨rfl, h0⟩ | ⟨g, cap, cur, rfl, hB, hg, h1, h2, h3, h4⟩
  · exact .inl ⟨rfl, List.eq_nil_of_length_eq_zero h0⟩
  · refine .inr ⟨g, cap, cur, rfl, h1, h2, hB, hg, h3, fun i u hu => ?_⟩
    rw [← h4] at hu
    have hi : i < l.length * 4 := by
      have := (List.getElem?_eq_some_iff.1 hu).1
      simp at this; omega
    rw [List.getElem?_take_of_lt hi] at hu
    rw [← Array.getElem?_toList]
    exact hu
theorem OwnD.isD {B : Nat} {w : World} {v : Value} {l : List Tk} (h : OwnD B w v l) : IsDs w v l := by
  rcases h.form with ⟨rfl, rfl⟩ | ⟨g, c, cur, rfl, h1, h2, _, h3, _, h4⟩
  · exact ⟨by simp, h.1, none, 0, rfl, by simp, by simp, .inl rfl⟩
  · refine ⟨by omega, h.1, _, c, rfl, h1, h2, .inr ⟨g, 0, rfl, fun i x hx => ?_⟩⟩
    obtain ⟨e1, e2, e3, e4⟩ := cellsD_at l i x hx
    rw [cell_of h3, cell_of h3, cell_of h3, cell_of h3, Nat.zero_add]
    exact ⟨h4 _ _ e1, h4 _ _ e2, h4 _ _ e3, h4 _ _ e4⟩
theorem docInfo : (Tryz.prog.info? 50).map (fun i => (i.zero, i.size, i.bytes)) = some (some (.agg #[.int .u8 0, .string ⟨#[]⟩, .int .i64 0, .int .i64 0]), 4, 40) := by kernel_rfl
/-- append of tokens to a row of one's own. -/
theorem appD_run {w : World} {base : Nat} {v v2 : Value} {l m : List Tk} (hr : OwnD base w v l) (h2 : IsDs w v2 m) (hl : l.length + m.length ≤ 3000000000) (hb : base ≤ w.heap.size) :
    ∃ a' c' w', (∀ ty, (Builtin.append_ #[41, 41] ty #[v, v2]).run Tryz.prog w = .ok (.slice a' (l.length + m.length) c') w') ∧ OwnD base w' (.slice a' (l.length + m.length) c') (l ++ m) ∧ w.grownBy w' v.ownBlock ∧
      ((Value.slice a' (l.length + m.length) c').ownBlock = v.ownBlock ∨ (Value.slice a' (l.length + m.length) c').ownBlock = some w.heap.size) := by
  obtain ⟨i0, hi, hz0, hz1, hz2⟩ := info_parts docInfo
  have some_case : ∀ (ad : Addr) (c : Nat), v2 = .slice (some ad) m.length c → (∀ j u, (cellsD m)[j]? = some u → w.cell? (ad.add j) = some u) → ∃ a' c' w', (∀ ty, (Builtin.append_ #[41, 41] ty #[v, v2]).run Tryz.prog w = .ok (.slice a' (l.length + m.length) c') w') ∧ OwnD base w' (.slice a' (l.length + m.length) c') (l ++ m) ∧ w.grownBy w' v.ownBlock ∧
      ((Value.slice a' (l.length + m.length) c').ownBlock = v.ownBlock ∨ (Value.slice a' (l.length + m.length) c').ownBlock = some w.heap.size) := by
    intro ad c e hcells
    subst e
    obtain ⟨v', w', hrun, h3, h4, _, h5⟩ := run_append_own_at (P := Tryz.prog) w base 41 0 50 i0 (.agg #[.int .u8 0, .string ⟨#[]⟩, .int .i64 0, .int .i64 0]) 4 40 Tryz.underlying41 hi hz0 hz1 hz2 rfl (by decide) v l.length (cellsD l) hr.2 ad m.length c (cellsD m) (cellsD_len m) hcells (by
      intro u hu
      obtain ⟨j, hj⟩ := List.mem_iff_getElem?.1 hu
      obtain ⟨_, x, _, h | h | h | h⟩ := cellsD_inv m j u hj
      · rw [h.2]; rfl
      · rw [h.2]; rfl
      · rw [h.2]; rfl
      · rw [h.2]; rfl) (by unfold maxLen; omega) (by omega) hb
    obtain ⟨a', c', rfl⟩ := row_slice h3
    refine ⟨a', c', w', fun ty => hrun, ⟨hr.1.app h2.2.1, ?_⟩, h4, h5⟩
    rw [cellsD_app, List.length_append]
    exact h3
  obtain ⟨hm, hzb, a, c, hv, _, _, hc⟩ := h2
  rcases hc with rfl | ⟨g, off, rfl, hc⟩
  · cases a with
    | some ad => exact some_case ad c hv (by intro j u hu; simp [cellsD] at hu)
    | none =>
      subst hv
      obtain ⟨av, cv, e⟩ := hr.slice
      have hcap : l.length ≤ cv := by
        rcases hr.form with ⟨e1, rfl⟩ | ⟨g, c', cur, e1, h1, _⟩
        · simp
        · rw [e1] at e; cases e; exact h1
      have ht := Tryz.underlying41
      refine ⟨av, cv, w, fun ty => ?_, ?_, ⟨rfl, rfl, rfl, Nat.le_refl _, fun _ _ _ => rfl⟩, .inl ?_⟩
      · rw [e]
        cases av <;> simp [Builtin.append_, run_underlying ht, sizeOf, typeInfo, hi, Builtin.lenOf, Builtin.firstCells, loadCells, hcap, storeCells, Result.andThen]
      · rw [e] at hr; simpa using hr
      · rw [e]; simp
  · refine some_case ⟨g, off, none⟩ c hv fun j u hu => ?_
    obtain ⟨i, x, hx, h | h | h | h⟩ := cellsD_inv m j u hu
    · rw [Addr.add_lit, h.1, h.2]
      exact (hc i x hx).1
    · rw [Addr.add_lit, h.1, h.2, ← Nat.add_assoc]
      exact (hc i x hx).2.1
    · rw [Addr.add_lit, h.1, h.2, ← Nat.add_assoc]
      exact (hc i x hx).2.2.1
    · rw [Addr.add_lit, h.1, h.2, ← Nat.add_assoc]
      exact (hc i x hx).2.2.2
theorem appD_low {base : Nat} {w w' : World} {v : Value} {l : List Tk} (hr : OwnD base w v l) (hb : base ≤ w.heap.size) (hg : w.grownBy w' v.ownBlock) : Below base w w' :=
  ⟨hg.os, hg.tape, hg.output, hg.size, fun k hk => hg.block k (by omega) fun e => by have := (hr.lt e.symm).1; omega⟩
theorem ownD_one (w : World) (t : Tk) (ht : t.text.length ≤ maxLen) : OwnD w.heap.size (w.alloc (.cells #[kv t.kind, str t.text, nv t.at_, nv t.end_] 50)) (.slice (some ⟨w.heap.size, 0, none⟩) 1 1) [t] := by
  refine ⟨fun x hx => by simp at hx; subst hx; exact ht, by simp [cellsD], .inr ⟨_, _, _, rfl, Nat.le_refl _, new_block w _, Nat.le_refl _, by unfold maxLen; simp, by simp, by simp [cellsD]⟩⟩
end Go.Proofs.YtjhodmpgggaknaaGreatDoor
