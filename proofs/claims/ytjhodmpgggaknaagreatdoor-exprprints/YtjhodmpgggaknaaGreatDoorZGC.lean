import Derived.Test.YtjhodmpgggaknaaGreatDoorZGR
import Derived.Test.YtjhodmpgggaknaaGreatDoorZGB
/- Tokens in memory: slices, rows of one's own, what append makes. -/
namespace Go.Proofs.YtjhodmpgggaknaaGreatDoor
open Go.RowKit

/-- a kind, a number in its cell. -/
def kv (k : Nat) : Value := .int .u8 (k : Int)
def nv (n : Nat) : Value := .int .i64 (n : Int)
/-- three cells a token. -/
def cellsT (l : List Tk) : List Value := l.flatMap fun x => [kv x.kind, str x.text, nv x.at_]
/-- texts that are not too long. -/
def MidT (l : List Tk) : Prop := ∀ x ∈ l, x.text.length ≤ maxLen
theorem MidT.app {l m : List Tk} (h : MidT l) (k : MidT m) : MidT (l ++ m) := fun x hx => (List.mem_append.1 hx).elim (h x) (k x)
theorem MidT.part {l : List Tk} (h : MidT l) (i j : Nat) : MidT ((l.drop i).take j) := fun x hx => h x (List.mem_of_mem_drop (List.mem_of_mem_take hx))
/-- a slice's value over tokens. -/
def IsTs (w : World) (v : Value) (l : List Tk) : Prop :=
  l.length ≤ maxLen ∧ MidT l ∧ ∃ a c, v = .slice a l.length c ∧ l.length ≤ c ∧ c ≤ maxLen ∧ (l = [] ∨ ∃ b off, a = some ⟨b, off, none⟩ ∧ ∀ i x, l[i]? = some x → w.cell? ⟨b, off + i * 3, none⟩ = some (kv x.kind) ∧ w.cell? ⟨b, off + i * 3 + 1, none⟩ = some (str x.text) ∧ w.cell? ⟨b, off + i * 3 + 2, none⟩ = some (nv x.at_))
theorem IsTs.slice {w : World} {v : Value} {l : List Tk} (h : IsTs w v l) : ∃ a c, v = .slice a l.length c := by obtain ⟨_, _, a, c, e, _⟩ := h; exact ⟨a, c, e⟩
theorem IsTs.keep {w w' : World} {v : Value} {l : List Tk} (h : IsTs w v l) (hk : ∀ b o u, v.ownBlock = some b → w.cell? ⟨b, o, none⟩ = some u → w'.cell? ⟨b, o, none⟩ = some u) : IsTs w' v l := by
  obtain ⟨h1, h2, a, c, rfl, h4, h5, h3⟩ := h
  refine ⟨h1, h2, a, c, rfl, h4, h5, h3.imp id ?_⟩
  rintro ⟨b, off, rfl, hc⟩
  exact ⟨b, off, rfl, fun i x hx => ⟨hk b _ _ rfl (hc i x hx).1, hk b _ _ rfl (hc i x hx).2.1, hk b _ _ rfl (hc i x hx).2.2⟩⟩
theorem IsTs.block {w w' : World} {v : Value} {l : List Tk} (h : IsTs w v l) (hk : ∀ b, v.ownBlock = some b → b < w.heap.size → w'.heap[b]? = w.heap[b]?) : IsTs w' v l :=
  h.keep fun b o _ hb hu => (cell_block (hk b hb (World.block_lt_of_cell? w ⟨b, o, none⟩ hu))).trans hu
theorem IsTs.below {w w' : World} {v : Value} {l : List Tk} (h : IsTs w v l) (hb : Below w.heap.size w w') : IsTs w' v l := h.block fun b _ hl => hb.block b hl
theorem IsTs.bound {w : World} {a : Option Addr} {n c : Nat} {l : List Tk} (h : IsTs w (.slice a n c) l) : n = l.length ∧ n ≤ c ∧ c ≤ 9223372036854775807 := by
  obtain ⟨h1, h2, a', c', e, h4, h5, _⟩ := h
  cases e
  unfold maxLen at h5
  exact ⟨rfl, h4, h5⟩
theorem IsTs.mid {w : World} {v : Value} {l : List Tk} (h : IsTs w v l) {k : Nat} {x : Tk} (hk : l[k]? = some x) : x.text.length ≤ 9223372036854775807 := by
  have := h.2.1 x (List.mem_of_getElem? hk)
  unfold maxLen at this
  exact this
theorem IsTs.at {w : World} {a : Option Addr} {n c : Nat} {l : List Tk} (h : IsTs w (.slice a n c) l) {k : Nat} (hk : k < l.length) : ∃ b off, a = some ⟨b, off, none⟩ ∧ ∀ i x, l[i]? = some x → w.cell? ⟨b, off + i * 3, none⟩ = some (kv x.kind) ∧ w.cell? ⟨b, off + i * 3 + 1, none⟩ = some (str x.text) ∧ w.cell? ⟨b, off + i * 3 + 2, none⟩ = some (nv x.at_) := by
  obtain ⟨h1, h2, a', c', e, h4, h5, h3⟩ := h
  cases e
  rcases h3 with h3 | h3
  · subst h3; simp at hk
  · exact h3
/-- a piece. -/
theorem IsTs.part {w : World} {b off n c : Nat} {l : List Tk} (h : IsTs w (.slice (some ⟨b, off, none⟩) n c) l) (i j : Nat) (hij : i ≤ j) (hj : j ≤ n) (m d : Nat) (hm : m = j - i) (hd : m ≤ d) (hd2 : d ≤ maxLen) : IsTs w (.slice (some ⟨b, off + i * 3, none⟩) m d) ((l.drop i).take m) := by
  obtain ⟨hn, h2, h3⟩ := h.bound
  have hl : ((l.drop i).take m).length = m := by simp; omega
  refine ⟨by rw [hl]; omega, h.2.1.part i m, _, d, by rw [hl], by omega, hd2, ?_⟩
  by_cases hm0 : m = 0
  · left; exact List.eq_nil_of_length_eq_zero (by omega)
  · right
    obtain ⟨b', off', e, hc⟩ := h.at (k := 0) (by omega)
    cases e
    refine ⟨_, _, rfl, fun k x hx => ?_⟩
    have hkm : k < m := by have := (List.getElem?_eq_some_iff.1 hx).1; omega
    rw [List.getElem?_take_of_lt hkm, List.getElem?_drop] at hx
    have := hc (i + k) x hx
    rw [show off + i * 3 + k * 3 = off + (i + k) * 3 by omega]
    exact this
/-- a row of tokens of one's own, in a block from B on. -/
def OwnT (B : Nat) (w : World) (v : Value) (l : List Tk) : Prop := MidT l ∧ w.ownsRow B 48 3 v l.length (cellsT l)
theorem OwnT.slice {B : Nat} {w : World} {v : Value} {l : List Tk} (h : OwnT B w v l) : ∃ a c, v = .slice a l.length c := row_slice h.2
theorem OwnT.keep {B : Nat} {w w' : World} {v : Value} {l : List Tk} (h : OwnT B w v l) (hb : ∀ k, v.ownBlock = some k → w'.heap[k]? = w.heap[k]?) : OwnT B w' v l := ⟨h.1, ownsRow_block h.2 hb⟩
theorem OwnT.lt {B : Nat} {w : World} {v : Value} {l : List Tk} (h : OwnT B w v l) {k : Nat} (hk : v.ownBlock = some k) : B ≤ k ∧ k < w.heap.size := h.2.lt k hk
theorem OwnT.below {B : Nat} {w w' : World} {v : Value} {l : List Tk} (h : OwnT B w v l) (hb : Below w.heap.size w w') : OwnT B w' v l := h.keep fun k hk => hb.block k (h.lt hk).2
theorem OwnT.base {B B' : Nat} {w : World} {v : Value} {l : List Tk} (h : OwnT B w v l) (hB : B' ≤ B) : OwnT B' w v l := ⟨h.1, ownsRow_base h.2 fun _ hk => Nat.le_trans hB (h.lt hk).1⟩
theorem OwnT.form {B : Nat} {w : World} {v : Value} {l : List Tk} (h : OwnT B w v l) : (v = .slice none 0 0 ∧ l = []) ∨ ∃ (g c : Nat) (cur : Array Value), v = .slice (some ⟨g, 0, none⟩) l.length c ∧ l.length ≤ c ∧ c ≤ maxLen ∧ B ≤ g ∧ w.heap[g]? = some (.cells cur 48) ∧ cur.size = c * 3 ∧ ∀ (i : Nat) (u : Value), (cellsT l)[i]? = some u → cur[i]? = some u := by
  rcases h.2.2 with ⟨rfl, h0⟩ | ⟨g, cap, cur, rfl, hB, hg, h1, h2, h3, h4⟩
  · exact .inl ⟨rfl, List.eq_nil_of_length_eq_zero h0⟩
  · refine .inr ⟨g, cap, cur, rfl, h1, h2, hB, hg, h3, fun i u hu => ?_⟩
    rw [← h4] at hu
    have hi : i < l.length * 3 := by
      have := (List.getElem?_eq_some_iff.1 hu).1
      simp at this; omega
    rw [List.getElem?_take_of_lt hi] at hu
    rw [← Array.getElem?_toList]
    exact hu
end Go.Proofs.YtjhodmpgggaknaaGreatDoor
