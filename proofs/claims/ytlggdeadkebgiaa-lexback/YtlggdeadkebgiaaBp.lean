/- Plain mathematics of LexBack: how long what is written is; remarks ahead and behind. -/
import Derived.Test.YtlggdeadkebgiaaF1
namespace Go.Proofs.Ytlggdeadkebgiaa

theorem form_len (x : Tk) : x.form.length ≤ 2 * x.text.length + 2 := by
  unfold Tk.form form
  split
  · exact quote_len x.text
  · omega
theorem written_len : ∀ (l : List Tk) (B : Nat), (∀ x ∈ l, x.text.length ≤ B) → (written l).length ≤ l.length * (2 * B + 3)
  | [], B, _ => by simp [written]
  | x :: l, B, h => by
    have h1 := form_len x
    have h2 := h x (by simp)
    have h3 := written_len l B (fun y hy => h y (by simp [hy]))
    rw [written_cons, List.length_append, List.length_cons, List.length_cons, Nat.add_mul]
    omega
/-- the bytes of a remark that end no line. -/
def keepR (s : Tx) : Tx := s.filter rmk
theorem keepR_take (s : Tx) {j : Nat} (h : j < s.length) : keepR (s.take (j + 1)) = keepR (s.take j) ++ (if rmk (s.getD j 0) then [s.getD j 0] else []) := by
  unfold keepR
  rw [List.take_succ_eq_append_getElem h, List.filter_append]
  congr 1
  simp [List.getD, List.getElem?_eq_getElem h, List.filter_cons]
theorem keepR_len (s : Tx) : (keepR s).length ≤ s.length := List.length_filter_le _ _
theorem keepR_no (s : Tx) : (10 : UInt8) ∉ keepR s := fun h => by
  have := (List.mem_filter.1 h).2
  exact absurd this (by decide)
theorem gap_head {n : Tx} (h : (10 : UInt8) ∉ n) (t : Tx) : gap ((35 :: n) ++ 10 :: 9 :: t) = ((35 :: n) ++ [10, 9]).length + gap t := by
  have h1 : gapW false ((35 :: n) ++ 10 :: 9 :: t) = (35 :: n).length + 1 + gap (9 :: t) := gapW_app (35 :: n) (9 :: t) false (gap_note n h)
  have h2 : gap (9 :: t) = gap t + 1 := gap_blank t (by decide)
  show gapW false _ = _
  rw [h1, h2]
  simp; omega
/-- tokens written one behind the other, alone, or with remarks around, have the tokens' kinds and texts. -/
theorem back_plain {s : Tx} {l : List Tk} {b : Option Nat} (h : Scan 0 s l b) : ∃ m, Scan 0 (written l) m none ∧ m.map Tk.key = l.map Tk.key := by
  obtain ⟨m, h1, h2⟩ := scan_back h [] rfl 0
  rw [List.append_nil] at h1
  exact ⟨m, h1, h2⟩
theorem back_note {s : Tx} {l : List Tk} {b : Option Nat} (h : Scan 0 s l b) {n : Tx} (hn : (10 : UInt8) ∉ n) : ∃ m, Scan 0 ((35 :: n) ++ 10 :: 9 :: (written l ++ 35 :: n)) m none ∧ m.map Tk.key = l.map Tk.key := by
  obtain ⟨m, h1, h2⟩ := scan_back h (35 :: n) (gap_note n hn) (0 + ((35 :: n) ++ [10, 9]).length)
  refine ⟨m, ?_, h2⟩
  have hg := gap_head hn (written l ++ 35 :: n)
  have e : (35 :: n) ++ 10 :: 9 :: (written l ++ 35 :: n) = ((35 :: n) ++ [10, 9]) ++ (written l ++ 35 :: n) := by simp
  rw [e] at hg ⊢
  exact scan_ahead hg h1
theorem key_at {m l : List Tk} (h : m.map Tk.key = l.map Tk.key) {i : Nat} {x : Tk} (hx : l[i]? = some x) : ∃ y, m[i]? = some y ∧ y.kind = x.kind ∧ y.text = x.text := by
  have h2 := congrArg (fun q => q[i]?) h
  simp only [List.getElem?_map, hx] at h2
  cases hy : m[i]? with
  | none => rw [hy] at h2; cases h2
  | some y =>
    rw [hy] at h2
    simp [Tk.key] at h2
    exact ⟨y, rfl, h2.1, h2.2⟩
theorem key_len {m l : List Tk} (h : m.map Tk.key = l.map Tk.key) : m.length = l.length := by
  have := congrArg List.length h
  simpa using this
end Go.Proofs.Ytlggdeadkebgiaa
