/- Plain mathematics of a store of files: a list of files by rising names; a file put in its place, taken away, looked for. Nothing of the program. -/
import GoSem.Core.Value
namespace Go.Proofs.Ytinnegkkfaaceaa

/-- a file: its name, its bytes, how many are synced; where it lies: its block, its bytes' slice. -/
structure Fg where
  name : List UInt8
  b : List UInt8
  s : Nat
  fb : Nat
  v : Value

def del (n : List UInt8) (l : List Fg) : List Fg := l.filter fun f => !(f.name == n)
def ins (f : Fg) : List Fg → List Fg
  | [] => [f]
  | g :: r => if f.name < g.name then f :: g :: r else g :: ins f r
def put (f : Fg) (l : List Fg) : List Fg := ins f (del f.name l)
def look (n : List UInt8) (l : List Fg) : Option Fg := l.find? fun f => f.name == n
def Rising (l : List Fg) : Prop := l.Pairwise fun f g => f.name < g.name

theorem mem_ins (f x : Fg) : ∀ l : List Fg, x ∈ ins f l ↔ x = f ∨ x ∈ l
  | [] => by simp [ins]
  | g :: r => by
    unfold ins
    split
    · simp
    · simp [mem_ins f x r]; constructor
      · rintro (h | h | h) <;> simp [h]
      · rintro (h | h | h) <;> simp [h]
theorem mem_del {n : List UInt8} {l : List Fg} {x : Fg} : x ∈ del n l ↔ x ∈ l ∧ x.name ≠ n := by
  simp [del]
theorem mem_put {f x : Fg} {l : List Fg} : x ∈ put f l ↔ x = f ∨ (x ∈ l ∧ x.name ≠ f.name) := by
  simp [put, mem_ins, mem_del]
theorem length_ins (f : Fg) : ∀ l : List Fg, (ins f l).length = l.length + 1
  | [] => rfl
  | g :: r => by
    unfold ins
    split
    · rfl
    · simp [length_ins f r]
theorem lt_trans {a b c : List UInt8} (h : a < b) (k : b < c) : a < c := List.lt_trans h k
theorem lt_irrefl (a : List UInt8) : ¬ a < a := List.lt_irrefl a
theorem lt_of_not {a b : List UInt8} (h : ¬ a < b) (hne : a ≠ b) : b < a := by
  have h1 : b ≤ a := List.not_lt.1 h
  rcases List.le_iff_lt_or_eq.1 h1 with h2 | h2
  · exact h2
  · exact absurd h2.symm hne
theorem rising_ins {f : Fg} : ∀ {l : List Fg}, Rising l → (∀ g ∈ l, g.name ≠ f.name) → Rising (ins f l)
  | [], _, _ => by simp [ins, Rising]
  | g :: r, h, hn => by
    have h' := List.pairwise_cons.1 h
    unfold ins
    split
    · rename_i hlt
      refine List.pairwise_cons.2 ⟨fun x hx => ?_, h⟩
      rcases List.mem_cons.1 hx with rfl | hx
      · exact hlt
      · exact lt_trans hlt (h'.1 x hx)
    · rename_i hlt
      refine List.pairwise_cons.2 ⟨fun x hx => ?_, rising_ins h'.2 fun y hy => hn y (List.mem_cons_of_mem _ hy)⟩
      rcases (mem_ins f x r).1 hx with rfl | hx
      · exact lt_of_not hlt fun e => hn g List.mem_cons_self e.symm
      · exact h'.1 x hx
theorem rising_del {n : List UInt8} {l : List Fg} (h : Rising l) : Rising (del n l) := List.Pairwise.filter _ h
theorem rising_put {f : Fg} {l : List Fg} (h : Rising l) : Rising (put f l) :=
  rising_ins (rising_del h) fun _ hg => (mem_del.1 hg).2
theorem look_some {n : List UInt8} {l : List Fg} {f : Fg} (h : look n l = some f) : f ∈ l ∧ f.name = n := by
  unfold look at h
  exact ⟨List.mem_of_find?_eq_some h, by simpa using List.find?_some h⟩
theorem look_none {n : List UInt8} {l : List Fg} (h : look n l = none) : ∀ f ∈ l, f.name ≠ n := by
  unfold look at h
  intro f hf e
  have := List.find?_eq_none.1 h f hf
  simp [e] at this
/-- a name is one file's alone. -/
theorem name_one {l : List Fg} (h : Rising l) : ∀ {f g : Fg}, f ∈ l → g ∈ l → f.name = g.name → f = g := by
  induction l with
  | nil => intro f g hf; cases hf
  | cons x r ih =>
    have h' := List.pairwise_cons.1 h
    intro f g hf hg e
    rcases List.mem_cons.1 hf with a | hf' <;> rcases List.mem_cons.1 hg with b | hg'
    · rw [a, b]
    · exact absurd (h'.1 g hg') (by rw [← e, a]; exact lt_irrefl _)
    · exact absurd (h'.1 f hf') (by rw [e, b]; exact lt_irrefl _)
    · exact ih h'.2 hf' hg' e
theorem look_of_mem {l : List Fg} (h : Rising l) {f : Fg} (hf : f ∈ l) : look f.name l = some f := by
  cases hl : look f.name l with
  | none => exact absurd rfl (look_none hl f hf)
  | some g => obtain ⟨h1, h2⟩ := look_some hl; rw [name_one h h1 hf h2]
theorem look_of_not {n : List UInt8} {l : List Fg} (h : ∀ f ∈ l, f.name ≠ n) : look n l = none := by
  cases hl : look n l with
  | none => rfl
  | some g => obtain ⟨h1, h2⟩ := look_some hl; exact absurd h2 (h g h1)
theorem del_of_not {n : List UInt8} {l : List Fg} (h : ∀ f ∈ l, f.name ≠ n) : del n l = l := by
  unfold del
  rw [List.filter_eq_self]
  intro f hf
  simp [h f hf]
theorem length_del {n : List UInt8} : ∀ {l : List Fg}, Rising l → ∀ {f : Fg}, f ∈ l → f.name = n → (del n l).length + 1 = l.length
  | [], _, _, hf, _ => by cases hf
  | x :: r, h, f, hf, e => by
    have h' := List.pairwise_cons.1 h
    by_cases hx : x.name = n
    · have : ∀ y ∈ r, y.name ≠ n := fun y hy e' => by have := h'.1 y hy; rw [hx, e'] at this; exact lt_irrefl _ this
      have hd := del_of_not this
      have : del n (x :: r) = del n r := by simp [del, hx]
      rw [this, hd]; simp
    · rcases List.mem_cons.1 hf with rfl | hf
      · exact absurd e hx
      · have := length_del h'.2 hf e
        have h2 : del n (x :: r) = x :: del n r := by simp [del, hx]
        rw [h2]; simp; omega
theorem length_put_new {f : Fg} {l : List Fg} (h : look f.name l = none) : (put f l).length = l.length + 1 := by
  unfold put; rw [length_ins, del_of_not (look_none h)]
theorem length_put_old {f g : Fg} {l : List Fg} (hr : Rising l) (h : look f.name l = some g) : (put f l).length = l.length := by
  obtain ⟨h1, h2⟩ := look_some h
  unfold put; rw [length_ins, length_del hr h1 h2]
/-- two rising lists with the same files are one. -/
theorem rising_ext : ∀ {l l' : List Fg}, Rising l → Rising l' → (∀ f, f ∈ l ↔ f ∈ l') → l = l'
  | [], [], _, _, _ => rfl
  | [], y :: r, _, _, h => by have := (h y).2 List.mem_cons_self; cases this
  | x :: r, [], _, _, h => by have := (h x).1 List.mem_cons_self; cases this
  | x :: r, y :: q, h1, h2, h => by
    have a := List.pairwise_cons.1 h1
    have b := List.pairwise_cons.1 h2
    have e : x = y := by
      rcases List.mem_cons.1 ((h x).1 List.mem_cons_self) with e | hx
      · exact e
      · rcases List.mem_cons.1 ((h y).2 List.mem_cons_self) with e | hy
        · exact e.symm
        · exact absurd (lt_trans (a.1 y hy) (b.1 x hx)) (lt_irrefl _)
    subst e
    congr 1
    refine rising_ext a.2 b.2 fun f => ?_
    constructor
    · intro hf
      rcases List.mem_cons.1 ((h f).1 (List.mem_cons_of_mem _ hf)) with e | hq
      · subst e; exact absurd (a.1 f hf) (lt_irrefl _)
      · exact hq
    · intro hf
      rcases List.mem_cons.1 ((h f).2 (List.mem_cons_of_mem _ hf)) with e | hq
      · subst e; exact absurd (b.1 f hf) (lt_irrefl _)
      · exact hq
end Go.Proofs.Ytinnegkkfaaceaa
