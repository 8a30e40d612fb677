/- Plain mathematics of lex: where one stands in a text whose tokens are told one by one. No program in it. -/
import Derived.Test.YtlggdeadkebgiaaL2
namespace Go.Proofs.Ytlggdeadkebgiaa

theorem scan_step {p : Nat} {r : Tx} {ls : List Tk} {b : Option Nat} (h : Scan p r ls b) :
    (gap r = r.length ∧ ls = [] ∧ b = none) ∨ (gap r < r.length ∧ first (r.drop (gap r)) = none ∧ ls = [] ∧ b = some (p + gap r)) ∨
    (gap r < r.length ∧ ∃ k x u l', first (r.drop (gap r)) = some (k, x, u) ∧ ls = ⟨k, x, p + gap r⟩ :: l' ∧ Scan (p + gap r + u) (r.drop (gap r + u)) l' b) := by
  cases h with
  | done h => exact .inl ⟨h, rfl, rfl⟩
  | bad h1 h2 => exact .inr (.inl ⟨h1, h2, rfl, rfl⟩)
  | tok h1 h2 h3 => exact .inr (.inr ⟨h1, _, _, _, _, h2, rfl, h3⟩)
/-- k tokens are told; the next one, if there is any, stands at a place. -/
def Pos (s : Tx) (l : List Tk) (b : Option Nat) (k at_ : Nat) : Prop :=
  ∃ p, at_ = p + gap (s.drop p) ∧ p ≤ s.length ∧ Scan p (s.drop p) (l.drop k) b
theorem pos_start {s : Tx} {l : List Tk} {b : Option Nat} (h : Scan 0 s l b) : Pos s l b 0 (gap s) := ⟨0, by simp, by omega, by simpa using h⟩
theorem Pos.le {s : Tx} {l : List Tk} {b : Option Nat} {k at_ : Nat} (h : Pos s l b k at_) : at_ ≤ s.length := by
  obtain ⟨p, rfl, hp, _⟩ := h
  have := gap_le (s.drop p)
  simp at this; omega
theorem Pos.end {s : Tx} {l : List Tk} {b : Option Nat} {k at_ : Nat} (h : Pos s l b k at_) (he : at_ = s.length) : l.drop k = [] ∧ b = none := by
  obtain ⟨p, rfl, hp, hs⟩ := h
  have hl : (s.drop p).length = s.length - p := by simp
  rcases scan_step hs with ⟨_, h1, h2⟩ | ⟨h1, _⟩ | ⟨h1, _⟩
  · exact ⟨h1, h2⟩
  · omega
  · omega
theorem Pos.bad {s : Tx} {l : List Tk} {b : Option Nat} {k at_ : Nat} (h : Pos s l b k at_) (hlt : at_ < s.length) (hf : first (s.drop at_) = none) : l.drop k = [] ∧ b = some at_ := by
  obtain ⟨p, rfl, hp, hs⟩ := h
  have hl : (s.drop p).length = s.length - p := by simp
  rw [← List.drop_drop] at hf
  rcases scan_step hs with ⟨h1, _⟩ | ⟨_, _, h1, h2⟩ | ⟨_, _, _, _, _, h1, _⟩
  · omega
  · exact ⟨h1, h2⟩
  · rw [hf] at h1; cases h1
theorem Pos.tok {s : Tx} {l : List Tk} {b : Option Nat} {k at_ : Nat} (h : Pos s l b k at_) (hlt : at_ < s.length) {kd : Nat} {x : Tx} {u : Nat} (hf : first (s.drop at_) = some (kd, x, u)) :
    l[k]? = some ⟨kd, x, at_⟩ ∧ at_ + u ≤ s.length ∧ Pos s l b (k + 1) (at_ + u + gap (s.drop (at_ + u))) := by
  obtain ⟨p, rfl, hp, hs⟩ := h
  have hl : (s.drop p).length = s.length - p := by simp
  obtain ⟨hu, hul, _⟩ := first_form hf
  rw [List.length_drop] at hul
  rw [← List.drop_drop] at hf
  rcases scan_step hs with ⟨h1, _⟩ | ⟨_, h1, _⟩ | ⟨_, k', x', u', l', h1, h2, h3⟩
  · omega
  · rw [hf] at h1; cases h1
  · rw [hf] at h1
    cases h1
    have hd : l.drop (k + 1) = l' := by
      rw [← List.drop_drop, h2]; rfl
    refine ⟨?_, by omega, p + gap (s.drop p) + u, rfl, by omega, ?_⟩
    · have := congrArg (fun q => q[0]?) h2
      simpa using this
    · rw [hd]
      rw [List.drop_drop, ← Nat.add_assoc] at h3
      exact h3
/-- what is told one by one: tokens, each with 0; at last what stands where none does. -/
def bads : Option Nat → List (Tk × Nat)
  | none => []
  | some p => [(⟨0, [], p⟩, 90)]
def told (l : List Tk) (b : Option Nat) : List (Tk × Nat) := l.map (fun x => (x, 0)) ++ bads b
theorem told_at {l : List Tk} {b : Option Nat} {k : Nat} {x : Tk} (h : l[k]? = some x) : (told l b)[k]? = some (x, 0) := by
  unfold told
  have hk := (List.getElem?_eq_some_iff.1 h).1
  rw [List.getElem?_append_left (by simpa using hk), List.getElem?_map, h]
  rfl
theorem told_bad {l : List Tk} {p : Nat} : (told l (some p))[l.length]? = some (⟨0, [], p⟩, 90) := by
  unfold told bads
  rw [List.getElem?_append_right (by simp)]
  simp
theorem told_len (l : List Tk) (b : Option Nat) : (told l b).length = l.length + (bads b).length := by simp [told]
theorem drop_nil {l : List Tk} {k : Nat} (h : l.drop k = []) (hk : k ≤ l.length) : k = l.length := by
  have := congrArg List.length h
  simp at this; omega
/-- .. of a text. -/
def TellOf (s : Tx) (r : List (Tk × Nat)) : Prop :=
  (4096 < s.length ∧ r = [(⟨0, [], 0⟩, 3)]) ∨ (s.length ≤ 4096 ∧ ∃ l b, Scan 0 s l b ∧ r = told l b)
theorem tell_ex (s : Tx) : ∃ r, TellOf s r := by
  by_cases h : 4096 < s.length
  · exact ⟨_, .inl ⟨h, rfl⟩⟩
  · obtain ⟨l, b, hs⟩ := scan_ex s.length s 0 (Nat.le_refl _)
    exact ⟨_, .inr ⟨by omega, l, b, hs, rfl⟩⟩
theorem scan_mem {p : Nat} {s : Tx} {l : List Tk} {b : Option Nat} (h : Scan p s l b) : l.length ≤ s.length ∧ (∀ x ∈ l, x.text.length ≤ s.length ∧ p ≤ x.at_ ∧ x.at_ < p + s.length ∧ 1 ≤ x.kind ∧ x.kind ≤ 4) ∧ (∀ q, b = some q → p ≤ q ∧ q < p + s.length) := by
  induction h with
  | done => exact ⟨by simp, (fun x hx => by cases hx), (fun q hq => by cases hq)⟩
  | bad h => exact ⟨by simp, (fun x hx => by cases hx), (fun q hq => by cases hq; omega)⟩
  | @tok at_ s k x u l b h1 h2 h3 ih =>
    obtain ⟨hu, hul, _, _, hk1, hk2, hx⟩ := first_form h2
    simp only [List.length_drop] at hul
    obtain ⟨i1, i2, i3⟩ := ih
    simp only [List.length_drop] at i1 i2 i3
    refine ⟨by simp only [List.length_cons]; omega, ?_, ?_⟩
    · intro y hy
      rcases List.mem_cons.1 hy with rfl | hy
      · exact ⟨by simp only []; omega, by simp only []; omega, by simp only []; omega, hk1, hk2⟩
      · obtain ⟨a1, a2, a3, a4⟩ := i2 y hy
        exact ⟨by omega, by omega, by omega, a4⟩
    · intro q hq
      have := i3 q hq
      omega
end Go.Proofs.Ytlggdeadkebgiaa
