/- Plain mathematics of a crash; a slice of numbers in memory. -/
import Derived.Test.YtinnegkkfaaceaaW14
namespace Go.Proofs.Ytinnegkkfaaceaa
open Go.RowKit Go.Maps Go.MapKept Go.Shelf

def keptOf (ks : List Int) (loose : Nat) : Nat := match ks with | [] => 0 | x :: _ => min x.toNat loose
def crashL : List Ent → List Int → List Ent
  | [], _ => []
  | f :: r, ks => if f.b.length ≤ f.s then f :: crashL r ks else ⟨f.name, f.b.take (f.s + keptOf ks (f.b.length - f.s)), f.s + keptOf ks (f.b.length - f.s)⟩ :: crashL r ks.tail
def St.crash (t : St) (ks : List Int) : St := { t with l := crashL t.l ks, left := -1 }
def RisingE (l : List Ent) : Prop := l.Pairwise fun a b => a.name < b.name
theorem risingE_map {l : List Fg} (h : Rising l) : RisingE (l.map Fg.e) := List.pairwise_map.2 h
theorem keptOf_le (ks : List Int) (n : Nat) : keptOf ks n ≤ n := by
  unfold keptOf; split <;> omega
theorem delE_of_not {n : List UInt8} {l : List Ent} (h : ∀ f ∈ l, f.name ≠ n) : delE n l = l := by
  unfold delE
  rw [List.filter_eq_self]
  intro f hf
  simp [h f hf]
theorem insE_mid (f : Ent) : ∀ (d r : List Ent), (∀ x ∈ d, ¬ f.name < x.name) → (∀ x ∈ r, f.name < x.name) → insE f (d ++ r) = d ++ f :: r
  | [], [], _, _ => rfl
  | [], y :: r, _, hr => by
    show (if f.name < y.name then _ else _) = _
    rw [if_pos (hr y List.mem_cons_self)]; rfl
  | x :: d, r, hd, hr => by
    show (if f.name < x.name then _ else x :: insE f (d ++ r)) = _
    rw [if_neg (hd x List.mem_cons_self), insE_mid f d r (fun y hy => hd y (List.mem_cons_of_mem _ hy)) hr]; rfl
/-- a file put at the place of the one of its name. -/
theorem putE_mid {f x : Ent} {d r : List Ent} (h : RisingE (d ++ x :: r)) (hn : f.name = x.name) : putE f (d ++ x :: r) = d ++ f :: r := by
  obtain ⟨h1, h2, h3⟩ := List.pairwise_append.1 h
  have h4 := List.pairwise_cons.1 h2
  have e : delE f.name (d ++ x :: r) = d ++ r := by
    have a1 : delE f.name d = d := delE_of_not fun y hy e => by have := h3 y hy x List.mem_cons_self; rw [e, hn] at this; exact lt_irrefl _ this
    have a2 : delE f.name r = r := delE_of_not fun y hy e => by have := h4.1 y hy; rw [e, hn] at this; exact lt_irrefl _ this
    unfold delE at a1 a2 ⊢
    rw [List.filter_append, List.filter_cons_of_neg (by simp [hn]), a1, a2]
  unfold putE
  rw [e]
  refine insE_mid f d r (fun y hy hlt => ?_) fun y hy => ?_
  · have := h3 y hy x List.mem_cons_self
    rw [hn] at hlt
    exact lt_irrefl _ (lt_trans hlt this)
  · rw [hn]; exact h4.1 y hy
/-- a slice's value over numbers in memory. -/
def IsI (w : World) (v : Value) (ks : List Int) : Prop :=
  ks.length ≤ maxLen ∧ (∀ x ∈ ks, -9223372036854775808 ≤ x ∧ x ≤ 9223372036854775807) ∧ ∃ a c, v = .slice a ks.length c ∧ ks.length ≤ c ∧ c ≤ maxLen ∧ (ks = [] ∨ ∃ b off, a = some ⟨b, off, none⟩ ∧ ∀ i, i < ks.length → w.cell? ⟨b, off + i, none⟩ = some (.int .i64 (ks.getD i 0)))
theorem IsI.kept {w w' : World} {v : Value} {ks : List Int} (h : IsI w v ks) (hk : ks ≠ [] → ∀ b, v.ownBlock = some b → b < w.heap.size → w'.heap[b]? = w.heap[b]?) : IsI w' v ks := by
  obtain ⟨h1, h2, a, c, rfl, h3, h4, h5⟩ := h
  refine ⟨h1, h2, a, c, rfl, h3, h4, ?_⟩
  rcases h5 with h5 | ⟨b, off, rfl, h5⟩
  · exact .inl h5
  · exact .inr ⟨b, off, rfl, fun i hi => (World.cell?_of_block (a := ⟨b, off + i, none⟩) (hk (fun e => by rw [e] at hi; cases hi) b rfl (World.block_lt_of_cell? w ⟨b, off + i, none⟩ (h5 i hi)))).trans (h5 i hi)⟩
theorem IsI.lt {w : World} {v : Value} {ks : List Int} (h : IsI w v ks) (hn : ks ≠ []) {b : Nat} (hb : v.ownBlock = some b) : b < w.heap.size := by
  obtain ⟨h1, h2, a, c, rfl, h3, h4, h5⟩ := h
  rcases h5 with h5 | ⟨b', off, rfl, h5⟩
  · exact absurd h5 hn
  · have : b' = b := by simpa [Value.ownBlock] using hb
    subst this
    exact World.block_lt_of_cell? w ⟨b', off + 0, none⟩ (h5 0 (List.length_pos_iff.2 hn))
/-- the numbers without the first one. -/
theorem IsI.tail {w : World} {b off : Nat} {x : Int} {r : List Int} {c : Nat} (h : IsI w (.slice (some ⟨b, off, none⟩) (x :: r).length c) (x :: r)) (a' : Option Addr) (c' : Nat) (hc : c' = c - 1) (ha : r ≠ [] → a' = some ⟨b, off + 1, none⟩) : IsI w (.slice a' r.length c') r := by
  obtain ⟨h1, h2, a, c0, e, h3, h4, h5⟩ := h
  cases e
  refine ⟨by simp at h1; omega, fun y hy => h2 y (List.mem_cons_of_mem _ hy), a', c', rfl, by simp at h3; omega, by omega, ?_⟩
  by_cases hr : r = []
  · exact .inl hr
  · refine .inr ⟨b, off + 1, ha hr, fun i hi => ?_⟩
    rcases h5 with h5 | ⟨b', off', e, h5⟩
    · cases h5
    · cases e
      have := h5 (i + 1) (by simp; omega)
      rw [show off + 1 + i = off + (i + 1) by omega, this]
      simp
theorem Turned.trans {w w1 w2 : World} {f f1 f2 : Fg} (a : Turned w w1 f f1) (b : Turned w1 w2 f1 f2) : Turned w w2 f f2 := by
  refine ⟨b.file, b.name.trans a.name, b.fb.trans a.fb, a.kept.trans b.kept fun k hk => ?_, fun k hk => ?_⟩
  · rcases hk with hk | hk
    · exact .inl (.inl (hk.trans a.fb))
    · rcases a.row k hk with h | h
      · exact .inl (.inr h)
      · exact .inr h
  · rcases b.row k hk with h | h
    · exact a.row k h
    · exact .inr (Nat.le_trans a.kept.size h)
/-- a world that differs by draws alone. -/
def Same (w W : World) : Prop := W.heap = w.heap ∧ W.os = w.os ∧ W.tape = w.tape ∧ W.output = w.output
theorem cut_any (w : World) {f : Fg} (h : FileAt w f) (n : Nat) (hn : n ≤ f.b.length) (W : World) (hW : Same w W) :
    Calls Try.prog 54 #[ptr f.fb, .int .i64 (n : Int)] W fun e w' => e = .returned (.tuple #[]) ∧ ∃ v', Turned w w' f { f with b := f.b.take n, s := min f.s n, v := v' } := by
  obtain ⟨e1, e2, e3, e4⟩ := hW
  have hq : FileAt W f := h.keep fun _ _ => by rw [e1]
  have ht : ∀ {w' : World} {f' : Fg}, Turned W w' f f' → Turned w w' f f' := fun ht => ⟨ht.file, ht.name, ht.fb, ⟨ht.kept.os.trans e2, ht.kept.tape.trans e3, ht.kept.output.trans e4, by rw [← e1]; exact ht.kept.size, fun k h1 h2 => by rw [← e1]; exact ht.kept.block k (by rw [e1]; exact h1) h2⟩, by rw [← e1]; exact ht.row⟩
  by_cases hlt : n < f.b.length
  · refine (cut_less W hq n hlt).mono ?_
    rintro e w' ⟨rfl, v', h1⟩
    exact ⟨rfl, v', ht h1⟩
  · obtain rfl : n = f.b.length := by omega
    refine (cut_whole W hq).mono ?_
    rintro e w' ⟨rfl, h1⟩
    refine ⟨rfl, f.v, ?_⟩
    rw [List.take_length, Nat.min_eq_left h.syn]
    exact ht h1
end Go.Proofs.Ytinnegkkfaaceaa
