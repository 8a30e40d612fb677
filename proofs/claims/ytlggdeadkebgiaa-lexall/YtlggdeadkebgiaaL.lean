/- Plain mathematics of lex: which bytes a word, a number, a sign, a text in quotes begins with, what stands between, the tokens of a text. No program in it. -/
import Derived.Test.YtlggdeadkebgiaaP2
namespace Go.Proofs.Ytlggdeadkebgiaa

def dig (c : UInt8) : Bool := decide (48 ≤ c.toNat) && decide (c.toNat ≤ 57)
def blk (c : UInt8) : Bool := c.toNat == 32 || c.toNat == 9 || c.toNat == 10 || c.toNat == 13
def rmk (c : UInt8) : Bool := c.toNat != 10
def cnt (f : UInt8 → Bool) : Tx → Nat
  | [] => 0
  | c :: t => if f c then cnt f t + 1 else 0
theorem cnt_le (f : UInt8 → Bool) : ∀ s, cnt f s ≤ s.length
  | [] => by simp [cnt]
  | c :: t => by
    rw [cnt]
    split
    · have := cnt_le f t; simp; omega
    · simp
theorem cnt_pos {f : UInt8 → Bool} {c : UInt8} {t : Tx} (h : f c = true) : cnt f (c :: t) = cnt f t + 1 := by rw [cnt, if_pos h]
theorem cnt_zero {f : UInt8 → Bool} {c : UInt8} {t : Tx} (h : f c = false) : cnt f (c :: t) = 0 := by rw [cnt, if_neg (by rw [h]; simp)]
theorem cnt_mem {f : UInt8 → Bool} : ∀ (s : Tx), ∀ c ∈ s.take (cnt f s), f c = true
  | [] => by simp [cnt]
  | d :: t => by
    intro c hc
    cases h : f d
    · rw [cnt_zero h] at hc; simp at hc
    · rw [cnt_pos h] at hc
      simp only [List.take_succ_cons, List.mem_cons] at hc
      rcases hc with rfl | hc
      · exact h
      · exact cnt_mem t c hc
theorem cnt_stop {f : UInt8 → Bool} {c : UInt8} (h : f c = false) (t : Tx) : ∀ r, cnt f (r ++ c :: t) = cnt f r
  | [] => by rw [List.nil_append, cnt_zero h]; rfl
  | d :: r => by
    rw [List.cons_append]
    cases hd : f d
    · rw [cnt_zero hd, cnt_zero hd]
    · rw [cnt_pos hd, cnt_pos hd, cnt_stop h t r]
theorem cnt_all {f : UInt8 → Bool} : ∀ {s : Tx}, (∀ c ∈ s, f c = true) → cnt f s = s.length
  | [], _ => rfl
  | d :: r, h => by
    rw [cnt_pos (h d (by simp)), cnt_all fun c hc => h c (by simp [hc])]
    rfl
theorem cnt_take {f : UInt8 → Bool} (s : Tx) : cnt f (s.take (cnt f s)) = cnt f s := by
  rw [cnt_all (cnt_mem s)]
  have := cnt_le f s
  simp; omega
theorem cnt_behind {f : UInt8 → Bool} : ∀ (s : Tx) {c : UInt8} {t : Tx}, s.drop (cnt f s) = c :: t → f c = false
  | [], c, t, h => by simp at h
  | d :: r, c, t, h => by
    cases hd : f d
    · rw [cnt_zero hd] at h
      simp at h
      rw [← h.1]; exact hd
    · rw [cnt_pos hd] at h
      simp only [List.drop_succ_cons] at h
      exact cnt_behind r h
theorem cnt_eq {f : UInt8 → Bool} : ∀ (s : Tx) (n : Nat), n ≤ s.length → (∀ i, i < n → f (s.getD i 0) = true) → (n < s.length → f (s.getD n 0) = false) → cnt f s = n
  | [], n, h, _, _ => by simp at h; simp [cnt, h]
  | c :: t, 0, _, _, h => by
    have := h (by simp)
    simp at this
    rw [cnt_zero this]
  | c :: t, n + 1, h1, h2, h3 => by
    have h0 := h2 0 (by omega)
    simp at h0
    rw [cnt_pos h0, cnt_eq t n (by simpa using h1) (fun i hi => by have := h2 (i + 1) (by omega); simpa using this) (fun hn => by have := h3 (by simp; omega); simpa using this)]

/-- what stands between: blanks and remarks (first: in a remark?). -/
def gapW : Bool → Tx → Nat
  | _, [] => 0
  | true, c :: t => if c = 10 then gapW false t + 1 else gapW true t + 1
  | false, c :: t => if c = 35 then gapW true t + 1 else if blk c then gapW false t + 1 else 0
def gap (s : Tx) : Nat := gapW false s
def betw : Bool → Tx → Bool
  | _, [] => true
  | true, c :: t => betw (rmk c) t
  | false, c :: t => if c = 35 then betw true t else if blk c then betw false t else false
theorem gapW_nil (b : Bool) : gapW b [] = 0 := by cases b <;> rfl
theorem gapW_le : ∀ (s : Tx) (b : Bool), gapW b s ≤ s.length
  | [], b => by rw [gapW_nil]; simp
  | c :: t, true => by
    rw [gapW]
    have h1 := gapW_le t true
    have h2 := gapW_le t false
    split <;> simp <;> omega
  | c :: t, false => by
    rw [gapW]
    have h1 := gapW_le t true
    have h2 := gapW_le t false
    split
    · simp; omega
    · split <;> simp; omega
theorem gap_le (s : Tx) : gap s ≤ s.length := gapW_le s false
theorem gap_blank {c : UInt8} (t : Tx) (h : blk c = true) : gap (c :: t) = gap t + 1 := by
  have h35 : c ≠ 35 := by rintro rfl; exact absurd h (by decide)
  unfold gap
  rw [gapW, if_neg h35, if_pos h]
theorem gap_stop {c : UInt8} (t : Tx) (h : blk c = false) (h35 : c ≠ 35) : gap (c :: t) = 0 := by
  unfold gap
  rw [gapW, if_neg h35, if_neg (by rw [h]; simp)]
theorem rmk_ne {c : UInt8} : rmk c = true ↔ c ≠ 10 := by
  unfold rmk
  rw [bne_iff_ne]
  constructor
  · rintro h rfl; exact h rfl
  · intro h e; exact h (UInt8.toNat_inj.1 e)
theorem gapW_true : ∀ (t : Tx), gapW true t = cnt rmk t + gap (t.drop (cnt rmk t))
  | [] => rfl
  | c :: t => by
    by_cases h : c = 10
    · subst h
      rw [gapW, if_pos rfl, cnt_zero (by decide), List.drop_zero, gap_blank t (by decide)]
      simp [gap]
    · rw [gapW, if_neg h, cnt_pos (rmk_ne.2 h), gapW_true t, List.drop_succ_cons]
      omega
theorem gap_remark (t : Tx) : gap (35 :: t) = cnt rmk (35 :: t) + gap ((35 :: t).drop (cnt rmk (35 :: t))) := by
  rw [cnt_pos (by decide), List.drop_succ_cons]
  show gapW false (35 :: t) = _
  rw [gapW, if_pos rfl, gapW_true t]
  omega
theorem betw_gap : ∀ (s : Tx) (b : Bool), betw b (s.take (gapW b s)) = true
  | [], b => by cases b <;> simp [betw]
  | c :: t, true => by
    rw [gapW]
    have h1 := betw_gap t true
    have h2 := betw_gap t false
    split
    · rename_i h
      subst h
      simp only [List.take_succ_cons, betw]
      exact h2
    · rename_i h
      simp only [List.take_succ_cons, betw, rmk_ne.2 h]
      exact h1
  | c :: t, false => by
    rw [gapW]
    have h1 := betw_gap t true
    have h2 := betw_gap t false
    split
    · rename_i h
      simp only [List.take_succ_cons, betw, if_pos h]
      exact h1
    · split
      · rename_i h hb
        simp only [List.take_succ_cons, betw, if_neg h, if_pos hb]
        exact h2
      · simp [betw]
theorem gapW_app : ∀ (s : Tx) (t : Tx) (b : Bool), gapW b s = s.length → gapW b (s ++ 10 :: t) = s.length + 1 + gap t
  | [], t, b, _ => by
    cases b
    · rw [List.nil_append, List.length_nil, Nat.zero_add, Nat.add_comm]
      exact gap_blank t (by decide)
    · show gapW true (10 :: t) = _
      rw [gapW, if_pos rfl]
      simp [gap]; omega
  | c :: s, t, true, h => by
    rw [List.cons_append, gapW] at *
    split at h <;> rename_i hc
    · rw [if_pos hc, gapW_app s t false (by simpa using h)]; simp; omega
    · rw [if_neg hc, gapW_app s t true (by simpa using h)]; simp; omega
  | c :: s, t, false, h => by
    rw [List.cons_append, gapW] at *
    split at h <;> rename_i hc
    · rw [if_pos hc, gapW_app s t true (by simpa using h)]; simp; omega
    · split at h <;> rename_i hb
      · rw [if_neg hc, if_pos hb, gapW_app s t false (by simpa using h)]; simp; omega
      · simp at h
theorem gapW_cut : ∀ (s : Tx) (t : Tx) (b : Bool), gapW b s < s.length → gapW b (s ++ t) = gapW b s
  | [], t, b, h => by simp at h
  | c :: s, t, true, h => by
    rw [List.cons_append, gapW, gapW]
    rw [gapW] at h
    split at h <;> rename_i hc
    · rw [if_pos hc, if_pos hc, gapW_cut s t false (by simpa using h)]
    · rw [if_neg hc, if_neg hc, gapW_cut s t true (by simpa using h)]
  | c :: s, t, false, h => by
    rw [List.cons_append, gapW, gapW]
    rw [gapW] at h
    split at h <;> rename_i hc
    · rw [if_pos hc, if_pos hc, gapW_cut s t true (by simpa using h)]
    · split at h <;> rename_i hb
      · rw [if_neg hc, if_neg hc, if_pos hb, if_pos hb, gapW_cut s t false (by simpa using h)]
      · rw [if_neg hc, if_neg hc, if_neg hb, if_neg hb]
/-- a remark without a line's end. -/
theorem gapW_note : ∀ (n : Tx), (10 : UInt8) ∉ n → gapW true n = n.length
  | [], _ => rfl
  | c :: n, h => by
    rw [gapW, if_neg (fun e => h (by rw [e]; simp)), gapW_note n (fun hm => h (List.mem_cons_of_mem _ hm))]
    rfl
theorem gap_note (n : Tx) (h : (10 : UInt8) ∉ n) : gap (35 :: n) = (35 :: n).length := by
  show gapW false (35 :: n) = _
  rw [gapW, if_pos rfl, gapW_note n h]
  rfl

/-- numbers, signs, texts in quotes. -/
def fract (q : Tx) : Nat :=
  match q with
  | [] => 0
  | c :: q => if c = 46 then (if cnt dig q = 0 then 0 else cnt dig q + 1) else 0
def numL (s : Tx) : Nat := cnt dig s + fract (s.drop (cnt dig s))
def alone (c : UInt8) : Bool := [(123 : UInt8), 125, 40, 41, 91, 93, 44, 58, 59, 61, 60, 62, 45].contains c
def withE (c : UInt8) : Bool := [(60 : UInt8), 62, 61, 33, 94].contains c
def sgn : Tx → Nat
  | [] => 0
  | [c] => if alone c then 1 else 0
  | c :: d :: _ => if d = 61 ∧ withE c = true then 2 else if alone c then 1 else 0
def unqP (acc : Tx) : Tx → Option (Tx × Tx)
  | [] => none
  | [c] => if c = 34 then some (acc, []) else none
  | c :: d :: t => if c = 34 then some (acc, d :: t) else if c = 92 then (if spc d then unqP (acc ++ [d]) t else none) else if vlc c then unqP (acc ++ [c]) (d :: t) else none
theorem unqP_nil (acc : Tx) : unqP acc [] = none := by rw [unqP]
theorem unqP_q (acc t : Tx) : unqP acc (34 :: t) = some (acc, t) := by
  cases t <;> simp [unqP]
theorem unqP_b0 (acc : Tx) : unqP acc [92] = none := by simp [unqP]
theorem unqP_b (acc : Tx) {d : UInt8} (t : Tx) (h : spc d = true) : unqP acc (92 :: d :: t) = unqP (acc ++ [d]) t := by simp [unqP, h]
theorem unqP_bad (acc : Tx) {d : UInt8} (t : Tx) (h : spc d = false) : unqP acc (92 :: d :: t) = none := by simp [unqP, h]
theorem unqP_c (acc : Tx) {c : UInt8} (t : Tx) (h1 : c ≠ 34) (h2 : c ≠ 92) (h3 : vlc c = true) : unqP acc (c :: t) = unqP (acc ++ [c]) t := by
  cases t with
  | nil => simp [unqP, h1]
  | cons d t => simp [unqP, h1, h2, h3]
theorem unqP_v (acc : Tx) {c : UInt8} (t : Tx) (h1 : c ≠ 34) (h2 : c ≠ 92) (h3 : vlc c = false) : unqP acc (c :: t) = none := by
  cases t with
  | nil => simp [unqP, h1]
  | cons d t => simp [unqP, h1, h2, h3]
theorem unqP_esc : ∀ (v acc t : Tx), (∀ c ∈ v, vlc c = true) → unqP acc (esc v ++ 34 :: t) = some (acc ++ v, t)
  | [], acc, t, _ => by simp [esc, unqP_q]
  | c :: v, acc, t, hv => by
    rw [esc_cons]
    unfold esc1
    have hv' : ∀ d ∈ v, vlc d = true := fun d hd => hv d (by simp [hd])
    cases h : spc c
    · rw [if_neg (by simp)]
      show unqP acc (c :: (esc v ++ 34 :: t)) = _
      rw [unqP_c acc _ (spc_ne h).1 (spc_ne h).2 (hv c (by simp)), unqP_esc v (acc ++ [c]) t hv']
      simp
    · rw [if_pos rfl]
      show unqP acc (92 :: c :: (esc v ++ 34 :: t)) = _
      rw [unqP_b acc _ h, unqP_esc v (acc ++ [c]) t hv']
      simp
theorem spc_vlc {c : UInt8} (h : spc c = true) : vlc c = true := by
  rcases spc_or h with rfl | rfl <;> decide
theorem unqP_inv : ∀ (n : Nat) (s acc v t : Tx), s.length ≤ n → unqP acc s = some (v, t) → ∃ u, v = acc ++ u ∧ s = esc u ++ 34 :: t ∧ ∀ c ∈ u, vlc c = true
  | _, [], acc, v, t, _, h => by rw [unqP_nil] at h; cases h
  | 0, c :: s, _, _, _, hn, _ => by simp at hn
  | n + 1, c :: s, acc, v, t, hn, h => by
    simp at hn
    by_cases h1 : c = 34
    · subst h1
      rw [unqP_q] at h
      cases h
      exact ⟨[], by simp, by simp [esc], by simp⟩
    · by_cases h2 : c = 92
      · subst h2
        cases s with
        | nil => rw [unqP_b0] at h; cases h
        | cons d s =>
          cases hd : spc d
          · rw [unqP_bad acc s hd] at h; cases h
          · rw [unqP_b acc s hd] at h
            simp at hn
            obtain ⟨u, e1, e2, e3⟩ := unqP_inv n s _ v t (by omega) h
            refine ⟨d :: u, by rw [e1]; simp, ?_, fun c hc => ?_⟩
            · rw [esc_cons, e2]
              simp [esc1, hd]
            · rcases List.mem_cons.1 hc with rfl | hc
              · exact spc_vlc hd
              · exact e3 c hc
      · cases h3 : vlc c
        · rw [unqP_v acc s h1 h2 h3] at h; cases h
        · rw [unqP_c acc s h1 h2 h3] at h
          obtain ⟨u, e1, e2, e3⟩ := unqP_inv n s _ v t (by omega) h
          refine ⟨c :: u, by rw [e1]; simp, ?_, fun d hd => ?_⟩
          · have hs : spc c = false := by
              cases hc : spc c
              · rfl
              · rcases spc_or hc with e | e
                · exact absurd e h1
                · exact absurd e h2
            rw [esc_cons, e2]
            simp [esc1, hs]
          · rcases List.mem_cons.1 hd with rfl | hd
            · exact h3
            · exact e3 d hd
theorem unqP_iff {s v t : Tx} : unqP [] s = some (v, t) ↔ s = esc v ++ 34 :: t ∧ ∀ c ∈ v, vlc c = true := by
  constructor
  · intro h
    obtain ⟨u, e1, e2, e3⟩ := unqP_inv s.length s [] v t (Nat.le_refl _) h
    simp at e1
    subst e1
    exact ⟨e2, e3⟩
  · rintro ⟨rfl, h⟩
    rw [unqP_esc v [] t h]
    rfl
theorem unq_iff {s v t : Tx} : unq [] s = some (v, t) ↔ s = esc v ++ 34 :: t := by
  constructor
  · intro h
    obtain ⟨u, e1, e2⟩ := unq_inv s.length s [] v t (Nat.le_refl _) h
    simp at e1
    subst e1
    exact e2
  · rintro rfl
    rw [unq_esc v [] t]
    rfl
/-- a text that doesn't end stays so behind a line's end. -/
theorem unqP_none : ∀ (n : Nat) (s acc t : Tx), s.length ≤ n → unqP acc s = none → unqP acc (s ++ 10 :: t) = none
  | _, [], acc, t, _, _ => by
    rw [List.nil_append, unqP_v acc t (by decide) (by decide) (by decide)]
  | 0, c :: s, _, _, hn, _ => by simp at hn
  | n + 1, c :: s, acc, t, hn, h => by
    simp at hn
    rw [List.cons_append]
    by_cases h1 : c = 34
    · subst h1; rw [unqP_q] at h; cases h
    · by_cases h2 : c = 92
      · subst h2
        cases s with
        | nil => exact unqP_bad acc t (by decide)
        | cons d s =>
          rw [List.cons_append]
          cases hd : spc d
          · exact unqP_bad acc _ hd
          · rw [unqP_b acc _ hd] at h ⊢
            simp at hn
            exact unqP_none n s _ t (by omega) h
      · cases h3 : vlc c
        · exact unqP_v acc _ h1 h2 h3
        · rw [unqP_c acc _ h1 h2 h3] at h ⊢
          exact unqP_none n s _ t (by omega) h
theorem esc_len2 (v : Tx) : v.length ≤ (esc v).length := by
  induction v with
  | nil => simp [esc]
  | cons c v ih =>
    rw [esc_cons, List.length_append, List.length_cons]
    have : 1 ≤ (esc1 c).length := by unfold esc1; split <;> simp
    omega

def textT (n : Nat) : Option (Tx × Tx) → Option (Nat × Tx × Nat)
  | none => none
  | some p => some (3, p.1, n + 1 - p.2.length)
/-- the token that a text begins with: its kind, its text, how many bytes it has. -/
def first : Tx → Option (Nat × Tx × Nat)
  | [] => none
  | c :: t =>
    if low c then some (1, (c :: t).take (cnt nmc (c :: t)), cnt nmc (c :: t))
    else if dig c then some (2, (c :: t).take (numL (c :: t)), numL (c :: t))
    else if c = 34 then textT t.length (unqP [] t)
    else if sgn (c :: t) = 0 then none else some (4, (c :: t).take (sgn (c :: t)), sgn (c :: t))
def form (k : Nat) (x : Tx) : Tx := if k = 3 then quote x else x
end Go.Proofs.Ytlggdeadkebgiaa
