/- Plain mathematics of lex: what is known of a text's first token; the tokens of a text; texts put together. No program in it. -/
import Derived.Test.YtlggdeadkebgiaaL
namespace Go.Proofs.Ytlggdeadkebgiaa

theorem fract_le (q : Tx) : fract q ≤ q.length := by
  unfold fract
  split
  · simp
  · rename_i c q
    have := cnt_le dig q
    split
    · split <;> simp; omega
    · simp
theorem numL_le (s : Tx) : numL s ≤ s.length := by
  unfold numL
  have := fract_le (s.drop (cnt dig s))
  have := cnt_le dig s
  simp at *; omega
/-- a byte that ends whatever token stands ahead of it. -/
def ends (c : UInt8) : Bool := !nmc c && !dig c && c != 46 && c != 61
theorem ends_iff {c : UInt8} (h : ends c = true) : nmc c = false ∧ dig c = false ∧ c ≠ 46 ∧ c ≠ 61 := by
  unfold ends at h
  simp only [Bool.and_eq_true, Bool.not_eq_true', bne_iff_ne] at h
  exact ⟨h.1.1.1, h.1.1.2, h.1.2, h.2⟩
theorem fract_app {c : UInt8} (h : ends c = true) (t : Tx) : ∀ q, fract (q ++ c :: t) = fract q
  | [] => by
    show (if c = 46 then _ else 0) = _
    rw [if_neg (ends_iff h).2.2.1]
    rfl
  | d :: q => by
    show (if d = 46 then (if cnt dig (q ++ c :: t) = 0 then 0 else cnt dig (q ++ c :: t) + 1) else 0) = (if d = 46 then (if cnt dig q = 0 then 0 else cnt dig q + 1) else 0)
    rw [cnt_stop (ends_iff h).2.1]
theorem numL_app {c : UInt8} (h : ends c = true) (t s : Tx) : numL (s ++ c :: t) = numL s := by
  unfold numL
  rw [cnt_stop (ends_iff h).2.1, List.drop_append_of_le_length (cnt_le dig s), fract_app h]
theorem fract_take (q : Tx) : fract (q.take (fract q)) = fract q := by
  cases q with
  | nil => rfl
  | cons d q =>
    have hf : fract (d :: q) = (if d = 46 then (if cnt dig q = 0 then 0 else cnt dig q + 1) else 0) := rfl
    rw [hf]
    split
    · split
      · rfl
      · rename_i hd h0
        rw [List.take_succ_cons]
        show (if d = 46 then (if cnt dig (q.take (cnt dig q)) = 0 then 0 else cnt dig (q.take (cnt dig q)) + 1) else 0) = _
        rw [if_pos hd, cnt_take, if_neg h0]
    · rfl
theorem cnt_join {f : UInt8 → Bool} : ∀ {a : Tx} {b : Tx}, (∀ c ∈ a, f c = true) → (∀ c t, b = c :: t → f c = false) → cnt f (a ++ b) = a.length
  | [], [], _, _ => rfl
  | [], c :: t, _, h => cnt_zero (h c t rfl)
  | d :: a, b, h, k => by
    rw [List.cons_append, cnt_pos (h d (by simp)), cnt_join (fun c hc => h c (by simp [hc])) k]
    rfl
theorem numL_take (s : Tx) : numL (s.take (numL s)) = numL s := by
  have e : s.take (numL s) = s.take (cnt dig s) ++ (s.drop (cnt dig s)).take (fract (s.drop (cnt dig s))) := by
    unfold numL
    rw [List.take_add]
  have hl := cnt_le dig s
  have hc : cnt dig (s.take (numL s)) = cnt dig s := by
    rw [e, cnt_join (cnt_mem s)]
    · simp; omega
    · intro c t h
      cases hq : s.drop (cnt dig s) with
      | nil => rw [hq] at h; simp at h
      | cons d q =>
        rw [hq] at h
        have hd := cnt_behind s hq
        cases hf : fract (d :: q) with
        | zero => rw [hf] at h; simp at h
        | succ n => rw [hf, List.take_succ_cons] at h; cases h; exact hd
  have hd : (s.take (numL s)).drop (cnt dig s) = (s.drop (cnt dig s)).take (fract (s.drop (cnt dig s))) := by
    rw [e, List.drop_append_of_le_length (by simp; omega)]
    rw [List.drop_eq_nil_of_le (by simp; omega)]
    rfl
  show cnt dig (s.take (numL s)) + fract ((s.take (numL s)).drop (cnt dig (s.take (numL s)))) = _
  rw [hc, hd, fract_take]
  rfl
theorem sgn_le : ∀ s : Tx, sgn s ≤ s.length
  | [] => by simp [sgn]
  | [c] => by
    rw [sgn]; split <;> simp
  | c :: d :: t => by
    rw [sgn]
    split
    · simp
    · split <;> simp
theorem sgn_two : ∀ s : Tx, sgn s ≤ 2
  | [] => by simp [sgn]
  | [c] => by
    rw [sgn]; split <;> simp
  | c :: d :: t => by
    rw [sgn]
    split
    · simp
    · split <;> simp
theorem sgn_app {c : UInt8} (h : ends c = true) (t : Tx) : ∀ s, s ≠ [] → sgn (s ++ c :: t) = sgn s
  | [], h0 => absurd rfl h0
  | [d], _ => by
    show (if c = 61 ∧ withE d = true then 2 else if alone d = true then 1 else 0) = if alone d = true then 1 else 0
    rw [if_neg (fun e => (ends_iff h).2.2.2 e.1)]
  | d :: e :: s, _ => by
    show sgn (d :: e :: (s ++ c :: t)) = _
    rw [sgn, sgn]
theorem sgn_take : ∀ s : Tx, sgn (s.take (sgn s)) = sgn s
  | [] => rfl
  | [c] => by
    rw [sgn]
    split
    · rename_i h
      show sgn [c] = 1
      rw [sgn, if_pos h]
    · rfl
  | c :: d :: t => by
    rw [sgn]
    split
    · rename_i h
      show sgn [c, d] = 2
      rw [sgn, if_pos h]
    · split
      · rename_i h
        show sgn [c] = 1
        rw [sgn, if_pos h]
      · rfl
theorem low_nmc {c : UInt8} (h : low c = true) : nmc c = true := by unfold nmc; rw [h]; rfl

/-- what a first token is. -/
theorem first_word {c : UInt8} {t : Tx} (h : low c = true) : first (c :: t) = some (1, (c :: t).take (cnt nmc (c :: t)), cnt nmc (c :: t)) := by rw [first, if_pos h]
theorem first_num {c : UInt8} {t : Tx} (h : low c = false) (h2 : dig c = true) : first (c :: t) = some (2, (c :: t).take (numL (c :: t)), numL (c :: t)) := by
  rw [first, if_neg (by rw [h]; simp), if_pos h2]
theorem first_text (t : Tx) : first (34 :: t) = textT t.length (unqP [] t) := by
  rw [first, if_neg (by decide), if_neg (by decide), if_pos rfl]
theorem first_text_none {t : Tx} (h : unqP [] t = none) : first (34 :: t) = none := by rw [first_text, h]; rfl
theorem first_text_some {t v r : Tx} (h : unqP [] t = some (v, r)) : first (34 :: t) = some (3, v, t.length + 1 - r.length) := by rw [first_text, h]; rfl
theorem first_sign {c : UInt8} {t : Tx} (h : low c = false) (h2 : dig c = false) (h3 : c ≠ 34) : first (c :: t) = if sgn (c :: t) = 0 then none else some (4, (c :: t).take (sgn (c :: t)), sgn (c :: t)) := by
  rw [first, if_neg (by rw [h]; simp), if_neg (by rw [h2]; simp), if_neg h3]
inductive Shape : Tx → Nat × Tx × Nat → Prop
  | word {c t} : low c = true → Shape (c :: t) (1, (c :: t).take (cnt nmc (c :: t)), cnt nmc (c :: t))
  | num {c t} : low c = false → dig c = true → Shape (c :: t) (2, (c :: t).take (numL (c :: t)), numL (c :: t))
  | text {v r} : (∀ c ∈ v, vlc c = true) → Shape (quote v ++ r) (3, v, (quote v).length)
  | sign {c t} : low c = false → dig c = false → c ≠ 34 → sgn (c :: t) ≠ 0 → Shape (c :: t) (4, (c :: t).take (sgn (c :: t)), sgn (c :: t))
theorem Shape.first {s : Tx} {r : Nat × Tx × Nat} (h : Shape s r) : first s = some r := by
  cases h with
  | word h => exact first_word h
  | num h h2 => exact first_num h h2
  | @text v r h =>
    show Proofs.Ytlggdeadkebgiaa.first (34 :: ((esc v ++ [34]) ++ r)) = _
    rw [List.append_assoc, List.singleton_append, first_text_some (unqP_iff.2 ⟨rfl, h⟩)]
    simp [quote]
    omega
  | sign h h2 h3 h4 => rw [first_sign h h2 h3, if_neg h4]
theorem shape_of {s : Tx} {r : Nat × Tx × Nat} (h : first s = some r) : Shape s r := by
  cases s with
  | nil => cases h
  | cons c t =>
    cases h1 : low c
    · cases h2 : dig c
      · by_cases h3 : c = 34
        · subst h3
          cases hu : unqP [] t with
          | none => rw [first_text_none hu] at h; cases h
          | some p =>
            obtain ⟨v, q⟩ := p
            rw [first_text_some hu] at h
            cases h
            obtain ⟨rfl, hv⟩ := unqP_iff.1 hu
            have := Shape.text (r := q) hv
            have e1 : quote v ++ q = 34 :: (esc v ++ 34 :: q) := by simp [quote]
            have e2 : (quote v).length = (esc v ++ 34 :: q).length + 1 - q.length := by simp [quote]; omega
            rw [e1, e2] at this
            exact this
        · rw [first_sign h1 h2 h3] at h
          split at h
          · cases h
          · rename_i h4
            cases h
            exact .sign h1 h2 h3 h4
      · rw [first_num h1 h2] at h
        cases h
        exact .num h1 h2
    · rw [first_word h1] at h
      cases h
      exact .word h1
theorem numL_pos {c : UInt8} {t : Tx} (h : dig c = true) : 0 < numL (c :: t) := by
  unfold numL
  rw [cnt_pos h]
  omega
/-- how long it is, and that it stands there as its form. -/
theorem first_form {s : Tx} {k : Nat} {x : Tx} {u : Nat} (h : first s = some (k, x, u)) : 0 < u ∧ u ≤ s.length ∧ s.take u = form k x ∧ (form k x).length = u ∧ 1 ≤ k ∧ k ≤ 4 ∧ x.length ≤ u := by
  have h' := shape_of h
  cases h' with
  | @word c t g =>
    have := cnt_le nmc (c :: t)
    refine ⟨by rw [cnt_pos (low_nmc g)]; omega, this, rfl, ?_, by omega, by omega, by simp; omega⟩
    show (List.take _ (c :: t)).length = _
    rw [List.length_take]; omega
  | @num c t g h2 =>
    have := numL_le (c :: t)
    refine ⟨numL_pos h2, this, rfl, ?_, by omega, by omega, by simp; omega⟩
    show (List.take _ (c :: t)).length = _
    rw [List.length_take]; omega
  | @text _ r g =>
    refine ⟨by simp [quote], by simp, by rw [List.take_left]; rfl, rfl, by omega, by omega, ?_⟩
    have := esc_len2 x
    simp [quote]; omega
  | @sign c t g h2 h3 h4 =>
    have := sgn_le (c :: t)
    refine ⟨by omega, this, rfl, ?_, by omega, by omega, by simp; omega⟩
    show (List.take _ (c :: t)).length = _
    rw [List.length_take]; omega
/-- what a byte behind changes: nothing, if it ends tokens. -/
theorem first_app {s : Tx} {k : Nat} {x : Tx} {u : Nat} (h : first s = some (k, x, u)) {c : UInt8} (hc : ends c = true) (t : Tx) : first (s ++ c :: t) = some (k, x, u) := by
  have h' := shape_of h
  cases h' with
  | @word d q g =>
    rw [List.cons_append, first_word g]
    rw [← List.cons_append, cnt_stop (ends_iff hc).1, List.take_append_of_le_length (cnt_le _ _)]
  | @num d q g h2 =>
    rw [List.cons_append, first_num g h2]
    rw [← List.cons_append, numL_app hc, List.take_append_of_le_length (numL_le _)]
  | @text _ r g =>
    rw [List.append_assoc]
    exact (Shape.text g).first
  | @sign d q g h2 h3 h4 =>
    rw [List.cons_append, first_sign g h2 h3]
    rw [← List.cons_append, sgn_app hc t _ (by simp), if_neg h4, List.take_append_of_le_length (sgn_le _)]
theorem first_take {s : Tx} {k : Nat} {x : Tx} {u : Nat} (h : first s = some (k, x, u)) : first (form k x) = some (k, x, u) := by
  have h' := shape_of h
  cases h' with
  | @word d q g =>
    show first (List.take _ (d :: q)) = _
    have e := cnt_take (f := nmc) (d :: q)
    rw [cnt_pos (low_nmc g), List.take_succ_cons] at e ⊢
    rw [first_word g, e, List.take_succ_cons, List.take_take, Nat.min_self]
  | @num d q g h2 =>
    show first (List.take _ (d :: q)) = _
    have e := numL_take (d :: q)
    have hp := numL_pos (t := q) h2
    obtain ⟨n, hn⟩ : ∃ n, numL (d :: q) = n + 1 := ⟨numL (d :: q) - 1, by omega⟩
    rw [hn, List.take_succ_cons] at e ⊢
    rw [first_num g h2, e, List.take_succ_cons, List.take_take, Nat.min_self]
  | text g =>
    show first (quote x) = _
    have := (Shape.text (r := []) g).first
    rw [List.append_nil] at this
    exact this
  | @sign d q g h2 h3 h4 =>
    show first (List.take _ (d :: q)) = _
    have e := sgn_take (d :: q)
    obtain ⟨n, hn⟩ : ∃ n, sgn (d :: q) = n + 1 := ⟨sgn (d :: q) - 1, by omega⟩
    rw [hn, List.take_succ_cons] at e ⊢
    rw [first_sign g h2 h3, e, if_neg (by omega), List.take_succ_cons, List.take_take, Nat.min_self]
theorem first_none {s : Tx} (h0 : s ≠ []) (h : first s = none) (t : Tx) : first (s ++ 10 :: t) = none := by
  cases s with
  | nil => exact absurd rfl h0
  | cons c q =>
    rw [List.cons_append]
    cases h1 : low c
    · cases h2 : dig c
      · by_cases h3 : c = 34
        · subst h3
          refine first_text_none (unqP_none q.length q [] t (Nat.le_refl _) ?_)
          cases hu : unqP [] q with
          | none => rfl
          | some p => obtain ⟨v, r⟩ := p; rw [first_text_some hu] at h; cases h
        · rw [first_sign h1 h2 h3] at h ⊢
          rw [← List.cons_append, sgn_app (by decide) t _ (by simp)]
          split at h
          · rename_i h4; rw [if_pos h4]
          · cases h
      · rw [first_num h1 h2] at h; cases h
    · rw [first_word h1] at h; cases h
theorem alone_stop {c : UInt8} (h : blk c = true ∨ c = 35) : alone c = false ∧ withE c = false ∧ low c = false ∧ dig c = false ∧ c ≠ 34 := by
  have hc : c = 32 ∨ c = 9 ∨ c = 10 ∨ c = 13 ∨ c = 35 := by
    rcases h with h | h
    · unfold blk at h
      simp only [Bool.or_eq_true, beq_iff_eq] at h
      rcases h with ((h | h) | h) | h
      · exact .inl (UInt8.toNat_inj.1 h)
      · exact .inr (.inl (UInt8.toNat_inj.1 h))
      · exact .inr (.inr (.inl (UInt8.toNat_inj.1 h)))
      · exact .inr (.inr (.inr (.inl (UInt8.toNat_inj.1 h))))
    · exact .inr (.inr (.inr (.inr h)))
  rcases hc with rfl | rfl | rfl | rfl | rfl <;> decide
theorem sgn_zero {c : UInt8} {t : Tx} (h1 : alone c = false) (h2 : withE c = false) : sgn (c :: t) = 0 := by
  cases t with
  | nil => rw [sgn, if_neg (by rw [h1]; simp)]
  | cons d t => rw [sgn, if_neg (by rw [h2]; simp), if_neg (by rw [h1]; simp)]
/-- no token begins with what stands between. -/
theorem first_gap {s : Tx} {r : Nat × Tx × Nat} (h : first s = some r) (t : Tx) : gap (s ++ t) = 0 := by
  cases s with
  | nil => cases h
  | cons c q =>
    have key : ¬ (blk c = true ∨ c = 35) := fun hc => by
      obtain ⟨h1, h2, h3, h4, h5⟩ := alone_stop hc
      rw [first_sign h3 h4 h5, if_pos (sgn_zero h1 h2)] at h
      cases h
    rw [List.cons_append]
    exact gap_stop _ (by simpa using fun h => key (.inl h)) fun h => key (.inr h)

/-- tokens of a text, each with its place; at last the place where something else stands. -/
structure Tk where
  kind : Nat
  text : Tx
  at_ : Nat
inductive Scan : Nat → Tx → List Tk → Option Nat → Prop
  | done {at_ s} : gap s = s.length → Scan at_ s [] none
  | bad {at_ s} : gap s < s.length → first (s.drop (gap s)) = none → Scan at_ s [] (some (at_ + gap s))
  | tok {at_ s k x u l b} : gap s < s.length → first (s.drop (gap s)) = some (k, x, u) → Scan (at_ + gap s + u) (s.drop (gap s + u)) l b → Scan at_ s (⟨k, x, at_ + gap s⟩ :: l) b
theorem scan_ex : ∀ (n : Nat) (s : Tx) (at_ : Nat), s.length ≤ n → ∃ l b, Scan at_ s l b := by
  intro n
  induction n with
  | zero =>
    intro s at_ h
    obtain rfl := List.eq_nil_of_length_eq_zero (by omega : s.length = 0)
    exact ⟨[], none, .done rfl⟩
  | succ n ih =>
    intro s at_ h
    have hg := gap_le s
    by_cases h1 : gap s = s.length
    · exact ⟨[], none, .done h1⟩
    · cases hf : first (s.drop (gap s)) with
      | none => exact ⟨_, _, .bad (by omega) hf⟩
      | some p =>
        obtain ⟨k, x, u⟩ := p
        obtain ⟨hu, hl, _⟩ := first_form hf
        obtain ⟨l, b, hs⟩ := ih (s.drop (gap s + u)) (at_ + gap s + u) (by simp at *; omega)
        exact ⟨_, _, .tok (by omega) hf hs⟩
theorem scan_uniq {at_ : Nat} {s : Tx} {l l' : List Tk} {b b' : Option Nat} (h : Scan at_ s l b) (h' : Scan at_ s l' b') : l = l' ∧ b = b' := by
  induction h generalizing l' b' with
  | done h1 =>
    cases h' with
    | done => exact ⟨rfl, rfl⟩
    | bad h2 => omega
    | tok h2 => omega
  | bad h1 h2 =>
    cases h' with
    | done h3 => omega
    | bad => exact ⟨rfl, rfl⟩
    | tok h3 h4 => rw [h2] at h4; cases h4
  | tok h1 h2 h3 ih =>
    cases h' with
    | done h3 => omega
    | bad h4 h5 => rw [h2] at h5; cases h5
    | tok h4 h5 h6 =>
      rw [h2] at h5
      cases h5
      obtain ⟨rfl, rfl⟩ := ih h6
      exact ⟨rfl, rfl⟩
def Tk.shift (d : Nat) (x : Tk) : Tk := ⟨x.kind, x.text, x.at_ + d⟩
theorem scan_shift {at_ : Nat} {s : Tx} {l : List Tk} {b : Option Nat} (h : Scan at_ s l b) (d : Nat) : Scan (at_ + d) s (l.map (Tk.shift d)) (b.map (· + d)) := by
  induction h with
  | done h1 => exact .done h1
  | @bad at_ s h1 h2 =>
    have := Scan.bad (at_ := at_ + d) h1 h2
    rw [Nat.add_right_comm] at this
    exact this
  | @tok at_ s k x u l b h1 h2 h3 ih =>
    have := Scan.tok (at_ := at_ + d) (l := l.map (Tk.shift d)) (b := b.map (· + d)) h1 h2 (by rw [show at_ + d + gap s + u = at_ + gap s + u + d by omega]; exact ih)
    rw [Nat.add_right_comm at_ d] at this
    exact this
/-- one text behind another, with a line's end between. -/
theorem scan_two {at_ : Nat} {s : Tx} {l : List Tk} (h : Scan at_ s l none) {t : Tx} {m : List Tk} {b : Option Nat} (h' : Scan (at_ + s.length + 1) t m b) : Scan at_ (s ++ 10 :: t) (l ++ m) b := by
  generalize hn : (none : Option Nat) = o at h
  induction h with
  | @done at_ s h1 =>
    have hg : gap (s ++ 10 :: t) = s.length + 1 + gap t := gapW_app s t false h1
    have hd : ∀ n, (s ++ 10 :: t).drop (s.length + 1 + n) = t.drop n := fun n => by
      rw [Nat.add_assoc, ← List.drop_drop, List.drop_left, Nat.add_comm 1 n, List.drop_succ_cons]
    have hlen : (s ++ 10 :: t).length = s.length + 1 + t.length := by simp; omega
    cases h' with
    | done h2 => exact .done (by rw [hg, h2, hlen])
    | bad h2 h3 =>
      have := Scan.bad (at_ := at_) (s := s ++ 10 :: t) (by rw [hg, hlen]; omega) (by rw [hg, hd]; exact h3)
      rw [hg, ← Nat.add_assoc, ← Nat.add_assoc] at this
      exact this
    | @tok _ _ k x u l b h2 h3 h4 =>
      have := Scan.tok (at_ := at_) (s := s ++ 10 :: t) (l := l) (b := b) (k := k) (x := x) (u := u) (by rw [hg, hlen]; omega) (by rw [hg, hd]; exact h3) (by
        rw [hg, Nat.add_assoc (s.length + 1), hd, ← Nat.add_assoc, ← Nat.add_assoc]
        exact h4)
      rw [hg, ← Nat.add_assoc, ← Nat.add_assoc] at this
      exact this
  | bad => cases hn
  | @tok at_ s k x u l b2 h1 h2 h3 ih =>
    have hg : gap (s ++ 10 :: t) = gap s := gapW_cut s _ false h1
    obtain ⟨hu, hul, _⟩ := first_form h2
    simp at hul
    have hle : gap s + u ≤ s.length := by omega
    have := Scan.tok (at_ := at_) (s := s ++ 10 :: t) (l := l ++ m) (b := b) (k := k) (x := x) (u := u) (by rw [hg]; simp; omega) (by
      rw [hg, List.drop_append_of_le_length (gap_le s)]
      exact first_app h2 (by decide) t) (by
      rw [hg, List.drop_append_of_le_length hle]
      refine ih ?_ hn
      rw [show at_ + gap s + u + (s.drop (gap s + u)).length + 1 = at_ + s.length + 1 by simp; omega]
      exact h')
    rw [hg] at this
    exact this
theorem scan_refused {at_ : Nat} {s : Tx} {l : List Tk} {p : Nat} (h : Scan at_ s l (some p)) (t : Tx) : Scan at_ (s ++ 10 :: t) l (some p) ∧ p < at_ + s.length := by
  generalize hn : some p = o at h
  induction h with
  | done => cases hn
  | @bad at_ s h1 h2 =>
    have hg : gap (s ++ 10 :: t) = gap s := gapW_cut s _ false h1
    have := Scan.bad (at_ := at_) (s := s ++ 10 :: t) (by rw [hg]; simp; omega) (by
      rw [hg, List.drop_append_of_le_length (gap_le s)]
      exact first_none (fun e => by have := congrArg List.length e; simp at this; omega) h2 t)
    rw [hg] at this
    cases hn
    exact ⟨this, by omega⟩
  | @tok at_ s k x u l b2 h1 h2 h3 ih =>
    have hg : gap (s ++ 10 :: t) = gap s := gapW_cut s _ false h1
    obtain ⟨hu, hul, _⟩ := first_form h2
    simp at hul
    have hle : gap s + u ≤ s.length := by omega
    subst hn
    obtain ⟨h4, h5⟩ := ih rfl
    have := Scan.tok (at_ := at_) (s := s ++ 10 :: t) (l := l) (b := some p) (k := k) (x := x) (u := u) (by rw [hg]; simp; omega) (by
      rw [hg, List.drop_append_of_le_length (gap_le s)]
      exact first_app h2 (by decide) t) (by
      rw [hg, List.drop_append_of_le_length hle]
      exact h4)
    rw [hg] at this
    refine ⟨this, ?_⟩
    simp at h5; omega
/-- what stands ahead of a text and is none of its tokens. -/
theorem scan_ahead {p : Tx} {at_ : Nat} {s : Tx} {l : List Tk} {b : Option Nat} (hp : gap (p ++ s) = p.length + gap s) (h : Scan (at_ + p.length) s l b) : Scan at_ (p ++ s) l b := by
  have hd : ∀ n, (p ++ s).drop (p.length + n) = s.drop n := fun n => by rw [← List.drop_drop, List.drop_left]
  cases h with
  | done h2 => exact .done (by rw [hp, h2]; simp)
  | bad h2 h3 =>
    have := Scan.bad (at_ := at_) (s := p ++ s) (by rw [hp]; simp; omega) (by rw [hp, hd]; exact h3)
    rw [hp, ← Nat.add_assoc] at this
    exact this
  | @tok _ _ k x u l b h2 h3 h4 =>
    have := Scan.tok (at_ := at_) (s := p ++ s) (l := l) (b := b) (k := k) (x := x) (u := u) (by rw [hp]; simp; omega) (by rw [hp, hd]; exact h3) (by
      rw [hp, Nat.add_assoc p.length, hd, ← Nat.add_assoc]
      exact h4)
    rw [hp, ← Nat.add_assoc] at this
    exact this
def Tk.form (x : Tk) : Tx := Proofs.Ytlggdeadkebgiaa.form x.kind x.text
/-- tokens written one behind the other, with a blank behind each. -/
def written (l : List Tk) : Tx := l.flatMap fun x => x.form ++ [32]
def Tk.key (x : Tk) : Nat × Tx := (x.kind, x.text)
theorem written_cons (x : Tk) (l : List Tk) : written (x :: l) = x.form ++ 32 :: written l := by
  simp [written]
theorem written_take (l : List Tk) (k : Nat) (x : Tk) (hx : l[k]? = some x) : written (l.take (k + 1)) = written (l.take k) ++ (x.form ++ [32]) := by
  unfold written
  rw [List.take_add_one, hx, List.flatMap_append]
  simp
theorem scan_back {at_ : Nat} {s : Tx} {l : List Tk} {b : Option Nat} (h : Scan at_ s l b) (z : Tx) (hz : gap z = z.length) : ∀ p, ∃ m, Scan p (written l ++ z) m none ∧ m.map Tk.key = l.map Tk.key := by
  induction h with
  | done => exact fun p => ⟨[], by simpa [written] using Scan.done hz, rfl⟩
  | bad => exact fun p => ⟨[], by simpa [written] using Scan.done hz, rfl⟩
  | @tok at_ s k x u l b h1 h2 h3 ih =>
    intro p
    obtain ⟨hu, hul, _, hfl, _⟩ := first_form h2
    have hf := first_take h2
    have hg : gap (form k x ++ 32 :: (written l ++ z)) = 0 := first_gap hf _
    have hfa : first (form k x ++ 32 :: (written l ++ z)) = some (k, x, u) := first_app hf (by decide) _
    obtain ⟨m, hm, hs⟩ := ih (p + u + 1)
    have e : written (⟨k, x, at_ + gap s⟩ :: l) ++ z = form k x ++ 32 :: (written l ++ z) := by rw [written_cons, List.append_assoc]; rfl
    have hb : Scan (p + 0 + u) (32 :: (written l ++ z)) m none := scan_ahead (p := [32]) (by
      show gap (32 :: (written l ++ z)) = _
      rw [gap_blank _ (by decide)]
      simp; omega) hm
    have := Scan.tok (at_ := p) (s := form k x ++ 32 :: (written l ++ z)) (l := m) (b := none) (k := k) (x := x) (u := u) (by rw [hg]; simp; omega) (by rw [hg]; exact hfa) (by
      rw [hg, Nat.zero_add, ← hfl, List.drop_left]
      rw [hfl]
      exact hb)
    rw [e]
    exact ⟨_, this, by rw [List.map_cons, List.map_cons, hs]; rfl⟩
end Go.Proofs.Ytlggdeadkebgiaa
