/- Tokens in memory: slices, rows of one's own, what append makes. -/
import Derived.Test.YtjhodmpgggaknaaGreatDoorZGR
import Derived.Test.YtjhodmpgggaknaaGreatDoorZGB
namespace Go.Proofs.YtjhodmpgggaknaaGreatDoor
open Go.RowKit

/-- a kind, a number in its cell. -/
def kv (k : Nat) : Value := .int .u8 (k : Int)
def nv (n : Nat) : Value := .int .i64 (n : Int)
/-- three cells a token. -/
def cellsT (l : List Tk) : List Value := l.flatMap fun x => [kv x.kind, str x.text, nv x.at_]
theorem cellsT_cons (x : Tk) (l : List Tk) : cellsT (x :: l) = kv x.kind :: str x.text :: nv x.at_ :: cellsT l := rfl
theorem cellsT_app (l m : List Tk) : cellsT (l ++ m) = cellsT l ++ cellsT m := by simp [cellsT]
theorem cellsT_len : ∀ (l : List Tk), (cellsT l).length = l.length * 3
  | [] => rfl
  | x :: l => by rw [cellsT_cons, List.length_cons, List.length_cons, List.length_cons, List.length_cons, cellsT_len l]; omega
theorem cellsT_at : ∀ (l : List Tk) (i : Nat) (x : Tk), l[i]? = some x → (cellsT l)[i * 3]? = some (kv x.kind) ∧ (cellsT l)[i * 3 + 1]? = some (str x.text) ∧ (cellsT l)[i * 3 + 2]? = some (nv x.at_)
  | [], i, x, h => by simp at h
  | y :: l, 0, x, h => by simp at h; subst h; exact ⟨rfl, rfl, rfl⟩
  | y :: l, i + 1, x, h => by
    have := cellsT_at l i x (by simpa using h)
    rw [cellsT_cons, show (i + 1) * 3 = i * 3 + 1 + 1 + 1 by omega, show i * 3 + 1 + 1 + 1 + 1 = (i * 3 + 1) + 1 + 1 + 1 by omega, show i * 3 + 1 + 1 + 1 + 2 = (i * 3 + 2) + 1 + 1 + 1 by omega]
    simpa using this
theorem cellsT_inv : ∀ (l : List Tk) (j : Nat) (u : Value), (cellsT l)[j]? = some u → ∃ i x, l[i]? = some x ∧ ((j = i * 3 ∧ u = kv x.kind) ∨ (j = i * 3 + 1 ∧ u = str x.text) ∨ (j = i * 3 + 2 ∧ u = nv x.at_))
  | [], j, u, h => by simp [cellsT] at h
  | y :: l, 0, u, h => by rw [cellsT_cons] at h; simp at h; exact ⟨0, y, rfl, .inl ⟨rfl, h.symm⟩⟩
  | y :: l, 1, u, h => by rw [cellsT_cons] at h; simp at h; exact ⟨0, y, rfl, .inr (.inl ⟨rfl, h.symm⟩)⟩
  | y :: l, 2, u, h => by rw [cellsT_cons] at h; simp at h; exact ⟨0, y, rfl, .inr (.inr ⟨rfl, h.symm⟩)⟩
  | y :: l, j + 3, u, h => by
    rw [cellsT_cons] at h
    obtain ⟨i, x, h1, h2⟩ := cellsT_inv l j u (by simpa using h)
    refine ⟨i + 1, x, by simpa using h1, ?_⟩
    rcases h2 with h | h | h
    · exact .inl ⟨by omega, h.2⟩
    · exact .inr (.inl ⟨by omega, h.2⟩)
    · exact .inr (.inr ⟨by omega, h.2⟩)
/-- texts that are not too long. -/
def MidT (l : List Tk) : Prop := ∀ x ∈ l, x.text.length ≤ maxLen
theorem MidT.app {l m : List Tk} (h : MidT l) (k : MidT m) : MidT (l ++ m) := fun x hx => (List.mem_append.1 hx).elim (h x) (k x)
theorem MidT.part {l : List Tk} (h : MidT l) (i j : Nat) : MidT ((l.drop i).take j) := fun x hx => h x (List.mem_of_mem_drop (List.mem_of_mem_take hx))
/-- a slice's value over tokens. -/
def IsTs (w : World) (v : Value) (l : List Tk) : Prop :=
  l.length ≤ maxLen ∧ MidT l ∧ ∃ a c, v = .slice a l.length c ∧ l.length ≤ c ∧ c ≤ maxLen ∧ (l = [] ∨ ∃ b off, a = some ⟨b, off, none⟩ ∧ ∀ i x, l[i]? = some x → w.cell? ⟨b, off + i * 3, none⟩ = some (kv x.kind) ∧ w.cell? ⟨b, off + i * 3 + 1, none⟩ = some (str x.text) ∧ w.cell? ⟨b, off + i * 3 + 2, none⟩ = some (nv x.at_))
theorem IsTs.slice {w : World} {v : Value} {l : List Tk} (h : IsTs w v l) : ∃ a c, v = .slice a l.length c := by obtain ⟨_, _, a, c, e, _⟩ := h; exact ⟨a, c, e⟩
theorem IsTs.keep {w w' : World} {v : Value} {l : List Tk} (h : IsTs w v l) (hk : ∀ b o u, v.ownBlock = some b → w.cell? ⟨b, o, none⟩ = some u → w'.cell? ⟨b, o, none⟩ = some u) : IsTs w' v l := by
  obtain ⟨h1, h2, a, c, rfl, h4, h5, h3⟩ := h
  refine ⟨h1, h2, a, c, rfl, h4, h5, h3.imp id ?_⟩
  rintro ⟨b, off, rfl, hc⟩
  exact ⟨b, off, rfl, fun i x hx => ⟨hk b _ _ rfl (hc i x hx).1, hk b _ _ rfl (hc i x hx).2.1, hk b _ _ rfl (hc i x hx).2.2⟩⟩
theorem IsTs.block {w w' : World} {v : Value} {l : List Tk} (h : IsTs w v l) (hk : ∀ b, v.ownBlock = some b → b < w.heap.size → w'.heap[b]? = w.heap[b]?) : IsTs w' v l :=
  h.keep fun b o _ hb hu => (cell_block (hk b hb (World.block_lt_of_cell? w ⟨b, o, none⟩ hu))).trans hu
theorem IsTs.below {w w' : World} {v : Value} {l : List Tk} (h : IsTs w v l) (hb : Below w.heap.size w w') : IsTs w' v l := h.block fun b _ hl => hb.block b hl
theorem IsTs.bound {w : World} {a : Option Addr} {n c : Nat} {l : List Tk} (h : IsTs w (.slice a n c) l) : n = l.length ∧ n ≤ c ∧ c ≤ 9223372036854775807 := by
  obtain ⟨h1, h2, a', c', e, h4, h5, _⟩ := h
  cases e
  unfold maxLen at h5
  exact ⟨rfl, h4, h5⟩
theorem IsTs.mid {w : World} {v : Value} {l : List Tk} (h : IsTs w v l) {k : Nat} {x : Tk} (hk : l[k]? = some x) : x.text.length ≤ 9223372036854775807 := by
  have := h.2.1 x (List.mem_of_getElem? hk)
  unfold maxLen at this
  exact this
theorem IsTs.at {w : World} {a : Option Addr} {n c : Nat} {l : List Tk} (h : IsTs w (.slice a n c) l) {k : Nat} (hk : k < l.length) : ∃ b off, a = some ⟨b, off, none⟩ ∧ ∀ i x, l[i]? = some x → w.cell? ⟨b, off + i * 3, none⟩ = some (kv x.kind) ∧ w.cell? ⟨b, off + i * 3 + 1, none⟩ = some (str x.text) ∧ w.cell? ⟨b, off + i * 3 + 2, none⟩ = some (nv x.at_) := by
  obtain ⟨h1, h2, a', c', e, h4, h5, h3⟩ := h
  cases e
  rcases h3 with h3 | h3
  · subst h3; simp at hk
  · exact h3
/-- a piece. -/
theorem IsTs.part {w : World} {b off n c : Nat} {l : List Tk} (h : IsTs w (.slice (some ⟨b, off, none⟩) n c) l) (i j : Nat) (hij : i ≤ j) (hj : j ≤ n) (m d : Nat) (hm : m = j - i) (hd : m ≤ d) (hd2 : d ≤ maxLen) : IsTs w (.slice (some ⟨b, off + i * 3, none⟩) m d) ((l.drop i).take m) := by
  obtain ⟨hn, h2, h3⟩ := h.bound
  have hl : ((l.drop i).take m).length = m := by simp; omega
  refine ⟨by rw [hl]; omega, h.2.1.part i m, _, d, by rw [hl], by omega, hd2, ?_⟩
  by_cases hm0 : m = 0
  · left; exact List.eq_nil_of_length_eq_zero (by omega)
  · right
    obtain ⟨b', off', e, hc⟩ := h.at (k := 0) (by omega)
    cases e
    refine ⟨_, _, rfl, fun k x hx => ?_⟩
    have hkm : k < m := by have := (List.getElem?_eq_some_iff.1 hx).1; omega
    rw [List.getElem?_take_of_lt hkm, List.getElem?_drop] at hx
    have := hc (i + k) x hx
    rw [show off + i * 3 + k * 3 = off + (i + k) * 3 by omega]
    exact this
/-- a row of tokens of one's own, in a block from B on. -/
def OwnT (B : Nat) (w : World) (v : Value) (l : List Tk) : Prop := MidT l ∧ w.ownsRow B 48 3 v l.length (cellsT l)
theorem OwnT.slice {B : Nat} {w : World} {v : Value} {l : List Tk} (h : OwnT B w v l) : ∃ a c, v = .slice a l.length c := row_slice h.2
theorem OwnT.keep {B : Nat} {w w' : World} {v : Value} {l : List Tk} (h : OwnT B w v l) (hb : ∀ k, v.ownBlock = some k → w'.heap[k]? = w.heap[k]?) : OwnT B w' v l := ⟨h.1, ownsRow_block h.2 hb⟩
theorem OwnT.lt {B : Nat} {w : World} {v : Value} {l : List Tk} (h : OwnT B w v l) {k : Nat} (hk : v.ownBlock = some k) : B ≤ k ∧ k < w.heap.size := h.2.lt k hk
theorem OwnT.below {B : Nat} {w w' : World} {v : Value} {l : List Tk} (h : OwnT B w v l) (hb : Below w.heap.size w w') : OwnT B w' v l := h.keep fun k hk => hb.block k (h.lt hk).2
theorem OwnT.base {B B' : Nat} {w : World} {v : Value} {l : List Tk} (h : OwnT B w v l) (hB : B' ≤ B) : OwnT B' w v l := ⟨h.1, ownsRow_base h.2 fun _ hk => Nat.le_trans hB (h.lt hk).1⟩
theorem ownT_nil (B : Nat) (w : World) : OwnT B w (.slice none 0 0) [] := ⟨(by intro z hz; simp at hz), World.ownsRow_nil _ _ _ _⟩
theorem OwnT.form {B : Nat} {w : World} {v : Value} {l : List Tk} (h : OwnT B w v l) : (v = .slice none 0 0 ∧ l = []) ∨ ∃ (g c : Nat) (cur : Array Value), v = .slice (some ⟨g, 0, none⟩) l.length c ∧ l.length ≤ c ∧ c ≤ maxLen ∧ B ≤ g ∧ w.heap[g]? = some (.cells cur 48) ∧ cur.size = c * 3 ∧ ∀ (i : Nat) (u : Value), (cellsT l)[i]? = some u → cur[i]? = some u := by
  rcases h.2.2 with ⟨rfl, h0⟩ | ⟨g, cap, cur, rfl, hB, hg, h1, h2, h3, h4⟩
  · exact .inl ⟨rfl, List.eq_nil_of_length_eq_zero h0⟩
  · refine .inr ⟨g, cap, cur, rfl, h1, h2, hB, hg, h3, fun i u hu => ?_⟩
    rw [← h4] at hu
    have hi : i < l.length * 3 := by
      have := (List.getElem?_eq_some_iff.1 hu).1
      simp at this; omega
    rw [List.getElem?_take_of_lt hi] at hu
    rw [← Array.getElem?_toList]
    exact hu
theorem OwnT.isT {B : Nat} {w : World} {v : Value} {l : List Tk} (h : OwnT B w v l) : IsTs w v l := by
  rcases h.form with ⟨rfl, rfl⟩ | ⟨g, c, cur, rfl, h1, h2, _, h3, _, h4⟩
  · exact ⟨by simp, h.1, none, 0, rfl, by simp, by simp, .inl rfl⟩
  · refine ⟨by omega, h.1, _, c, rfl, h1, h2, .inr ⟨g, 0, rfl, fun i x hx => ?_⟩⟩
    obtain ⟨e1, e2, e3⟩ := cellsT_at l i x hx
    rw [cell_of h3, cell_of h3, cell_of h3, Nat.zero_add]
    exact ⟨h4 _ _ e1, h4 _ _ e2, h4 _ _ e3⟩
theorem tokenInfo : (Tryz.prog.info? 48).map (fun i => (i.zero, i.size, i.bytes)) = some (some (.agg #[.int .u8 0, .string ⟨#[]⟩, .int .i64 0]), 3, 32) := by kernel_rfl
/-- append of tokens to a row of one's own. -/
theorem appT_run {w : World} {base : Nat} {v v2 : Value} {l m : List Tk} (hr : OwnT base w v l) (h2 : IsTs w v2 m) (hl : l.length + m.length ≤ 3000000000) (hb : base ≤ w.heap.size) :
    ∃ a' c' w', (∀ ty, (Builtin.append_ #[38, 38] ty #[v, v2]).run Tryz.prog w = .ok (.slice a' (l.length + m.length) c') w') ∧ OwnT base w' (.slice a' (l.length + m.length) c') (l ++ m) ∧ w.grownBy w' v.ownBlock ∧
      ((Value.slice a' (l.length + m.length) c').ownBlock = v.ownBlock ∨ (Value.slice a' (l.length + m.length) c').ownBlock = some w.heap.size) := by
  obtain ⟨i0, hi, hz0, hz1, hz2⟩ := info_parts tokenInfo
  have some_case : ∀ (ad : Addr) (c : Nat), v2 = .slice (some ad) m.length c → (∀ j u, (cellsT m)[j]? = some u → w.cell? (ad.add j) = some u) → ∃ a' c' w', (∀ ty, (Builtin.append_ #[38, 38] ty #[v, v2]).run Tryz.prog w = .ok (.slice a' (l.length + m.length) c') w') ∧ OwnT base w' (.slice a' (l.length + m.length) c') (l ++ m) ∧ w.grownBy w' v.ownBlock ∧
      ((Value.slice a' (l.length + m.length) c').ownBlock = v.ownBlock ∨ (Value.slice a' (l.length + m.length) c').ownBlock = some w.heap.size) := by
    intro ad c e hcells
    subst e
    obtain ⟨v', w', hrun, h3, h4, _, h5⟩ := run_append_own_at (P := Tryz.prog) w base 38 0 48 i0 (.agg #[.int .u8 0, .string ⟨#[]⟩, .int .i64 0]) 3 32 Tryz.underlying38 hi hz0 hz1 hz2 rfl (by decide) v l.length (cellsT l) hr.2 ad m.length c (cellsT m) (cellsT_len m) hcells (by
      intro u hu
      obtain ⟨j, hj⟩ := List.mem_iff_getElem?.1 hu
      obtain ⟨_, x, _, h | h | h⟩ := cellsT_inv m j u hj
      · rw [h.2]; rfl
      · rw [h.2]; rfl
      · rw [h.2]; rfl) (by unfold maxLen; omega) (by omega) hb
    obtain ⟨a', c', rfl⟩ := row_slice h3
    refine ⟨a', c', w', fun ty => hrun, ⟨hr.1.app h2.2.1, ?_⟩, h4, h5⟩
    rw [cellsT_app, List.length_append]
    exact h3
  obtain ⟨hm, hzb, a, c, hv, _, _, hc⟩ := h2
  rcases hc with rfl | ⟨g, off, rfl, hc⟩
  · cases a with
    | some ad => exact some_case ad c hv (by intro j u hu; simp [cellsT] at hu)
    | none =>
      subst hv
      obtain ⟨av, cv, e⟩ := hr.slice
      have hcap : l.length ≤ cv := by
        rcases hr.form with ⟨e1, rfl⟩ | ⟨g, c', cur, e1, h1, _⟩
        · simp
        · rw [e1] at e; cases e; exact h1
      have ht := Tryz.underlying38
      refine ⟨av, cv, w, fun ty => ?_, ?_, ⟨rfl, rfl, rfl, Nat.le_refl _, fun _ _ _ => rfl⟩, .inl ?_⟩
      · rw [e]
        cases av <;> simp [Builtin.append_, run_underlying ht, sizeOf, typeInfo, hi, Builtin.lenOf, Builtin.firstCells, loadCells, hcap, storeCells, Result.andThen]
      · rw [e] at hr; simpa using hr
      · rw [e]; simp
  · refine some_case ⟨g, off, none⟩ c hv fun j u hu => ?_
    obtain ⟨i, x, hx, h | h | h⟩ := cellsT_inv m j u hu
    · rw [Addr.add_lit, h.1, h.2]
      exact (hc i x hx).1
    · rw [Addr.add_lit, h.1, h.2, ← Nat.add_assoc]
      exact (hc i x hx).2.1
    · rw [Addr.add_lit, h.1, h.2, ← Nat.add_assoc]
      exact (hc i x hx).2.2
theorem appT_low {base : Nat} {w w' : World} {v : Value} {l : List Tk} (hr : OwnT base w v l) (hb : base ≤ w.heap.size) (hg : w.grownBy w' v.ownBlock) : Below base w w' :=
  ⟨hg.os, hg.tape, hg.output, hg.size, fun k hk => hg.block k (by omega) fun e => by have := (hr.lt e.symm).1; omega⟩
theorem ownT_one (w : World) (t : Tk) (ht : t.text.length ≤ maxLen) : OwnT w.heap.size (w.alloc (.cells #[kv t.kind, str t.text, nv t.at_] 48)) (.slice (some ⟨w.heap.size, 0, none⟩) 1 1) [t] := by
  refine ⟨fun x hx => by simp at hx; subst hx; exact ht, by simp [cellsT], .inr ⟨_, _, _, rfl, Nat.le_refl _, new_block w _, Nat.le_refl _, by unfold maxLen; simp, by simp, by simp [cellsT]⟩⟩
/-- append of one token that the call lays itself. -/
theorem pushT_run {w : World} {base : Nat} {v : Value} {l : List Tk} (hr : OwnT base w v l) (t : Tk) (ht : t.text.length ≤ maxLen) (hl : l.length + 1 ≤ 3000000000) (hb : base ≤ w.heap.size) :
    ∃ a' c' w', (∀ ty, (Builtin.append_ #[38, 38] ty #[v, .slice (some ⟨w.heap.size, 0, none⟩) 1 1]).run Tryz.prog (w.alloc (.cells #[kv t.kind, str t.text, nv t.at_] 48)) = .ok (.slice a' (l.length + 1) c') w') ∧ OwnT base w' (.slice a' (l.length + 1) c') (l ++ [t]) ∧ Below base w w' := by
  have hr' := hr.below (alloc_below w (.cells #[kv t.kind, str t.text, nv t.at_] 48))
  obtain ⟨a', c', w', h1, h2, h3, _⟩ := appT_run hr' (ownT_one w t ht).isT hl (by simp; omega)
  exact ⟨a', c', w', h1, h2, ((Below.refl base w).alloc hb _).trans (appT_low hr' (by simp; omega) h3)⟩
end Go.Proofs.YtjhodmpgggaknaaGreatDoor
