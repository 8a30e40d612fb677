/- Joined: L L2 L3 E0. -/
import Derived.Test.YtjhodmpgggaknaaGreatDoorZGA
/- Plain mathematics of lex: which bytes a word, a number, a sign, a text in quotes begins with, what stands between, the tokens of a text. No program in it. -/
namespace Go.Proofs.YtjhodmpgggaknaaGreatDoor

def dig (c : UInt8) : Bool := decide (48 ≤ c.toNat) && decide (c.toNat ≤ 57)
def blk (c : UInt8) : Bool := c.toNat == 32 || c.toNat == 9 || c.toNat == 10 || c.toNat == 13
def rmk (c : UInt8) : Bool := c.toNat != 10
def cnt (f : UInt8 → Bool) : Tx → Nat
  | [] => 0
  | c :: t => if f c then cnt f t + 1 else 0
theorem cnt_le (f : UInt8 → Bool) : ∀ s, cnt f s ≤ s.length
  | [] => by simp [cnt]
  | c :: t => by
    rw [cnt]
    split
    · have := cnt_le f t; simp; omega
    · simp
theorem cnt_pos {f : UInt8 → Bool} {c : UInt8} {t : Tx} (h : f c = true) : cnt f (c :: t) = cnt f t + 1 := by rw [cnt, if_pos h]
theorem cnt_zero {f : UInt8 → Bool} {c : UInt8} {t : Tx} (h : f c = false) : cnt f (c :: t) = 0 := by rw [cnt, if_neg (by rw [h]; simp)]
theorem cnt_mem {f : UInt8 → Bool} : ∀ (s : Tx), ∀ c ∈ s.take (cnt f s), f c = true
  | [] => by simp [cnt]
  | d :: t => by
    intro c hc
    cases h : f d
    · rw [cnt_zero h] at hc; simp at hc
    · rw [cnt_pos h] at hc
      simp only [List.take_succ_cons, List.mem_cons] at hc
      rcases hc with rfl | hc
      · exact h
      · exact cnt_mem t c hc
theorem cnt_stop {f : UInt8 → Bool} {c : UInt8} (h : f c = false) (t : Tx) : ∀ r, cnt f (r ++ c :: t) = cnt f r
  | [] => by rw [List.nil_append, cnt_zero h]; rfl
  | d :: r => by
    rw [List.cons_append]
    cases hd : f d
    · rw [cnt_zero hd, cnt_zero hd]
    · rw [cnt_pos hd, cnt_pos hd, cnt_stop h t r]
theorem cnt_all {f : UInt8 → Bool} : ∀ {s : Tx}, (∀ c ∈ s, f c = true) → cnt f s = s.length
  | [], _ => rfl
  | d :: r, h => by
    rw [cnt_pos (h d (by simp)), cnt_all fun c hc => h c (by simp [hc])]
    rfl
theorem cnt_behind {f : UInt8 → Bool} : ∀ (s : Tx) {c : UInt8} {t : Tx}, s.drop (cnt f s) = c :: t → f c = false
  | [], c, t, h => by simp at h
  | d :: r, c, t, h => by
    cases hd : f d
    · rw [cnt_zero hd] at h
      simp at h
      rw [← h.1]; exact hd
    · rw [cnt_pos hd] at h
      simp only [List.drop_succ_cons] at h
      exact cnt_behind r h
theorem cnt_eq {f : UInt8 → Bool} : ∀ (s : Tx) (n : Nat), n ≤ s.length → (∀ i, i < n → f (s.getD i 0) = true) → (n < s.length → f (s.getD n 0) = false) → cnt f s = n
  | [], n, h, _, _ => by simp at h; simp [cnt, h]
  | c :: t, 0, _, _, h => by
    have := h (by simp)
    simp at this
    rw [cnt_zero this]
  | c :: t, n + 1, h1, h2, h3 => by
    have h0 := h2 0 (by omega)
    simp at h0
    rw [cnt_pos h0, cnt_eq t n (by simpa using h1) (fun i hi => by have := h2 (i + 1) (by omega); simpa using this) (fun hn => by have := h3 (by simp; omega); simpa using this)]

/-- what stands between: blanks and remarks (first: in a remark?). -/
def gapW : Bool → Tx → Nat
  | _, [] => 0
  | true, c :: t => if c = 10 then gapW false t + 1 else gapW true t + 1
  | false, c :: t => if c = 35 then gapW true t + 1 else if blk c then gapW false t + 1 else 0
def gap (s : Tx) : Nat := gapW false s
theorem gapW_nil (b : Bool) : gapW b [] = 0 := by cases b <;> rfl
theorem gapW_le : ∀ (s : Tx) (b : Bool), gapW b s ≤ s.length
  | [], b => by rw [gapW_nil]; simp
  | c :: t, true => by
    rw [gapW]
    have h1 := gapW_le t true
    have h2 := gapW_le t false
    split <;> simp <;> omega
  | c :: t, false => by
    rw [gapW]
    have h1 := gapW_le t true
    have h2 := gapW_le t false
    split
    · simp; omega
    · split <;> simp; omega
theorem gap_le (s : Tx) : gap s ≤ s.length := gapW_le s false
theorem gap_blank {c : UInt8} (t : Tx) (h : blk c = true) : gap (c :: t) = gap t + 1 := by
  have h35 : c ≠ 35 := by rintro rfl; exact absurd h (by decide)
  unfold gap
  rw [gapW, if_neg h35, if_pos h]
theorem gap_stop {c : UInt8} (t : Tx) (h : blk c = false) (h35 : c ≠ 35) : gap (c :: t) = 0 := by
  unfold gap
  rw [gapW, if_neg h35, if_neg (by rw [h]; simp)]
theorem rmk_ne {c : UInt8} : rmk c = true ↔ c ≠ 10 := by
  unfold rmk
  rw [bne_iff_ne]
  constructor
  · rintro h rfl; exact h rfl
  · intro h e; exact h (UInt8.toNat_inj.1 e)
theorem gapW_true : ∀ (t : Tx), gapW true t = cnt rmk t + gap (t.drop (cnt rmk t))
  | [] => rfl
  | c :: t => by
    by_cases h : c = 10
    · subst h
      rw [gapW, if_pos rfl, cnt_zero (by decide), List.drop_zero, gap_blank t (by decide)]
      simp [gap]
    · rw [gapW, if_neg h, cnt_pos (rmk_ne.2 h), gapW_true t, List.drop_succ_cons]
      omega
theorem gap_remark (t : Tx) : gap (35 :: t) = cnt rmk (35 :: t) + gap ((35 :: t).drop (cnt rmk (35 :: t))) := by
  rw [cnt_pos (by decide), List.drop_succ_cons]
  show gapW false (35 :: t) = _
  rw [gapW, if_pos rfl, gapW_true t]
  omega
/-- numbers, signs, texts in quotes. -/
def fract (q : Tx) : Nat :=
  match q with
  | [] => 0
  | c :: q => if c = 46 then (if cnt dig q = 0 then 0 else cnt dig q + 1) else 0
def numL (s : Tx) : Nat := cnt dig s + fract (s.drop (cnt dig s))
def alone (c : UInt8) : Bool := [(123 : UInt8), 125, 40, 41, 91, 93, 44, 58, 59, 61, 60, 62, 45].contains c
def withE (c : UInt8) : Bool := [(60 : UInt8), 62, 61, 33, 94].contains c
def sgn : Tx → Nat
  | [] => 0
  | [c] => if alone c then 1 else 0
  | c :: d :: _ => if d = 61 ∧ withE c = true then 2 else if alone c then 1 else 0
def unqP (acc : Tx) : Tx → Option (Tx × Tx)
  | [] => none
  | [c] => if c = 34 then some (acc, []) else none
  | c :: d :: t => if c = 34 then some (acc, d :: t) else if c = 92 then (if spc d then unqP (acc ++ [d]) t else none) else if vlc c then unqP (acc ++ [c]) (d :: t) else none
theorem unqP_nil (acc : Tx) : unqP acc [] = none := by rw [unqP]
theorem unqP_q (acc t : Tx) : unqP acc (34 :: t) = some (acc, t) := by
  cases t <;> simp [unqP]
theorem unqP_b0 (acc : Tx) : unqP acc [92] = none := by simp [unqP]
theorem unqP_b (acc : Tx) {d : UInt8} (t : Tx) (h : spc d = true) : unqP acc (92 :: d :: t) = unqP (acc ++ [d]) t := by simp [unqP, h]
theorem unqP_bad (acc : Tx) {d : UInt8} (t : Tx) (h : spc d = false) : unqP acc (92 :: d :: t) = none := by simp [unqP, h]
theorem unqP_c (acc : Tx) {c : UInt8} (t : Tx) (h1 : c ≠ 34) (h2 : c ≠ 92) (h3 : vlc c = true) : unqP acc (c :: t) = unqP (acc ++ [c]) t := by
  cases t with
  | nil => simp [unqP, h1]
  | cons d t => simp [unqP, h1, h2, h3]
theorem unqP_v (acc : Tx) {c : UInt8} (t : Tx) (h1 : c ≠ 34) (h2 : c ≠ 92) (h3 : vlc c = false) : unqP acc (c :: t) = none := by
  cases t with
  | nil => simp [unqP, h1]
  | cons d t => simp [unqP, h1, h2, h3]
theorem unqP_esc : ∀ (v acc t : Tx), (∀ c ∈ v, vlc c = true) → unqP acc (esc v ++ 34 :: t) = some (acc ++ v, t)
  | [], acc, t, _ => by simp [esc, unqP_q]
  | c :: v, acc, t, hv => by
    rw [esc_cons]
    unfold esc1
    have hv' : ∀ d ∈ v, vlc d = true := fun d hd => hv d (by simp [hd])
    cases h : spc c
    · rw [if_neg (by simp)]
      show unqP acc (c :: (esc v ++ 34 :: t)) = _
      rw [unqP_c acc _ (spc_ne h).1 (spc_ne h).2 (hv c (by simp)), unqP_esc v (acc ++ [c]) t hv']
      simp
    · rw [if_pos rfl]
      show unqP acc (92 :: c :: (esc v ++ 34 :: t)) = _
      rw [unqP_b acc _ h, unqP_esc v (acc ++ [c]) t hv']
      simp
theorem spc_vlc {c : UInt8} (h : spc c = true) : vlc c = true := by
  rcases spc_or h with rfl | rfl <;> decide
theorem unqP_inv : ∀ (n : Nat) (s acc v t : Tx), s.length ≤ n → unqP acc s = some (v, t) → ∃ u, v = acc ++ u ∧ s = esc u ++ 34 :: t ∧ ∀ c ∈ u, vlc c = true
  | _, [], acc, v, t, _, h => by rw [unqP_nil] at h; cases h
  | 0, c :: s, _, _, _, hn, _ => by simp at hn
  | n + 1, c :: s, acc, v, t, hn, h => by
    simp at hn
    by_cases h1 : c = 34
    · subst h1
      rw [unqP_q] at h
      cases h
      exact ⟨[], by simp, by simp [esc], by simp⟩
    · by_cases h2 : c = 92
      · subst h2
        cases s with
        | nil => rw [unqP_b0] at h; cases h
        | cons d s =>
          cases hd : spc d
          · rw [unqP_bad acc s hd] at h; cases h
          · rw [unqP_b acc s hd] at h
            simp at hn
            obtain ⟨u, e1, e2, e3⟩ := unqP_inv n s _ v t (by omega) h
            refine ⟨d :: u, by rw [e1]; simp, ?_, fun c hc => ?_⟩
            · rw [esc_cons, e2]
              simp [esc1, hd]
            · rcases List.mem_cons.1 hc with rfl | hc
              · exact spc_vlc hd
              · exact e3 c hc
      · cases h3 : vlc c
        · rw [unqP_v acc s h1 h2 h3] at h; cases h
        · rw [unqP_c acc s h1 h2 h3] at h
          obtain ⟨u, e1, e2, e3⟩ := unqP_inv n s _ v t (by omega) h
          refine ⟨c :: u, by rw [e1]; simp, ?_, fun d hd => ?_⟩
          · have hs : spc c = false := by
              cases hc : spc c
              · rfl
              · rcases spc_or hc with e | e
                · exact absurd e h1
                · exact absurd e h2
            rw [esc_cons, e2]
            simp [esc1, hs]
          · rcases List.mem_cons.1 hd with rfl | hd
            · exact h3
            · exact e3 d hd
theorem unqP_iff {s v t : Tx} : unqP [] s = some (v, t) ↔ s = esc v ++ 34 :: t ∧ ∀ c ∈ v, vlc c = true := by
  constructor
  · intro h
    obtain ⟨u, e1, e2, e3⟩ := unqP_inv s.length s [] v t (Nat.le_refl _) h
    simp at e1
    subst e1
    exact ⟨e2, e3⟩
  · rintro ⟨rfl, h⟩
    rw [unqP_esc v [] t h]
    rfl
theorem unq_iff {s v t : Tx} : unq [] s = some (v, t) ↔ s = esc v ++ 34 :: t := by
  constructor
  · intro h
    obtain ⟨u, e1, e2⟩ := unq_inv s.length s [] v t (Nat.le_refl _) h
    simp at e1
    subst e1
    exact e2
  · rintro rfl
    rw [unq_esc v [] t]
    rfl
theorem esc_len2 (v : Tx) : v.length ≤ (esc v).length := by
  induction v with
  | nil => simp [esc]
  | cons c v ih =>
    rw [esc_cons, List.length_append, List.length_cons]
    have : 1 ≤ (esc1 c).length := by unfold esc1; split <;> simp
    omega

def textT (n : Nat) : Option (Tx × Tx) → Option (Nat × Tx × Nat)
  | none => none
  | some p => some (3, p.1, n + 1 - p.2.length)
/-- the token that a text begins with: its kind, its text, how many bytes it has. -/
def first : Tx → Option (Nat × Tx × Nat)
  | [] => none
  | c :: t =>
    if low c then some (1, (c :: t).take (cnt nmc (c :: t)), cnt nmc (c :: t))
    else if dig c then some (2, (c :: t).take (numL (c :: t)), numL (c :: t))
    else if c = 34 then textT t.length (unqP [] t)
    else if sgn (c :: t) = 0 then none else some (4, (c :: t).take (sgn (c :: t)), sgn (c :: t))
def form (k : Nat) (x : Tx) : Tx := if k = 3 then quote x else x
end Go.Proofs.YtjhodmpgggaknaaGreatDoor
/- Plain mathematics of lex: what is known of a text's first token; the tokens of a text; texts put together. No program in it. -/
namespace Go.Proofs.YtjhodmpgggaknaaGreatDoor

theorem fract_le (q : Tx) : fract q ≤ q.length := by
  unfold fract
  split
  · simp
  · rename_i c q
    have := cnt_le dig q
    split
    · split <;> simp; omega
    · simp
theorem numL_le (s : Tx) : numL s ≤ s.length := by
  unfold numL
  have := fract_le (s.drop (cnt dig s))
  have := cnt_le dig s
  simp at *; omega
/-- a byte that ends whatever token stands ahead of it. -/
def ends (c : UInt8) : Bool := !nmc c && !dig c && c != 46 && c != 61
theorem ends_iff {c : UInt8} (h : ends c = true) : nmc c = false ∧ dig c = false ∧ c ≠ 46 ∧ c ≠ 61 := by
  unfold ends at h
  simp only [Bool.and_eq_true, Bool.not_eq_true', bne_iff_ne] at h
  exact ⟨h.1.1.1, h.1.1.2, h.1.2, h.2⟩
theorem fract_app {c : UInt8} (h : ends c = true) (t : Tx) : ∀ q, fract (q ++ c :: t) = fract q
  | [] => by
    show (if c = 46 then _ else 0) = _
    rw [if_neg (ends_iff h).2.2.1]
    rfl
  | d :: q => by
    show (if d = 46 then (if cnt dig (q ++ c :: t) = 0 then 0 else cnt dig (q ++ c :: t) + 1) else 0) = (if d = 46 then (if cnt dig q = 0 then 0 else cnt dig q + 1) else 0)
    rw [cnt_stop (ends_iff h).2.1]
theorem numL_app {c : UInt8} (h : ends c = true) (t s : Tx) : numL (s ++ c :: t) = numL s := by
  unfold numL
  rw [cnt_stop (ends_iff h).2.1, List.drop_append_of_le_length (cnt_le dig s), fract_app h]
theorem cnt_join {f : UInt8 → Bool} : ∀ {a : Tx} {b : Tx}, (∀ c ∈ a, f c = true) → (∀ c t, b = c :: t → f c = false) → cnt f (a ++ b) = a.length
  | [], [], _, _ => rfl
  | [], c :: t, _, h => cnt_zero (h c t rfl)
  | d :: a, b, h, k => by
    rw [List.cons_append, cnt_pos (h d (by simp)), cnt_join (fun c hc => h c (by simp [hc])) k]
    rfl
theorem sgn_le : ∀ s : Tx, sgn s ≤ s.length
  | [] => by simp [sgn]
  | [c] => by
    rw [sgn]; split <;> simp
  | c :: d :: t => by
    rw [sgn]
    split
    · simp
    · split <;> simp
theorem sgn_two : ∀ s : Tx, sgn s ≤ 2
  | [] => by simp [sgn]
  | [c] => by
    rw [sgn]; split <;> simp
  | c :: d :: t => by
    rw [sgn]
    split
    · simp
    · split <;> simp
theorem sgn_app {c : UInt8} (h : ends c = true) (t : Tx) : ∀ s, s ≠ [] → sgn (s ++ c :: t) = sgn s
  | [], h0 => absurd rfl h0
  | [d], _ => by
    show (if c = 61 ∧ withE d = true then 2 else if alone d = true then 1 else 0) = if alone d = true then 1 else 0
    rw [if_neg (fun e => (ends_iff h).2.2.2 e.1)]
  | d :: e :: s, _ => by
    show sgn (d :: e :: (s ++ c :: t)) = _
    rw [sgn, sgn]
theorem low_nmc {c : UInt8} (h : low c = true) : nmc c = true := by unfold nmc; rw [h]; rfl

/-- what a first token is. -/
theorem first_word {c : UInt8} {t : Tx} (h : low c = true) : first (c :: t) = some (1, (c :: t).take (cnt nmc (c :: t)), cnt nmc (c :: t)) := by rw [first, if_pos h]
theorem first_num {c : UInt8} {t : Tx} (h : low c = false) (h2 : dig c = true) : first (c :: t) = some (2, (c :: t).take (numL (c :: t)), numL (c :: t)) := by
  rw [first, if_neg (by rw [h]; simp), if_pos h2]
theorem first_text (t : Tx) : first (34 :: t) = textT t.length (unqP [] t) := by
  rw [first, if_neg (by decide), if_neg (by decide), if_pos rfl]
theorem first_text_none {t : Tx} (h : unqP [] t = none) : first (34 :: t) = none := by rw [first_text, h]; rfl
theorem first_text_some {t v r : Tx} (h : unqP [] t = some (v, r)) : first (34 :: t) = some (3, v, t.length + 1 - r.length) := by rw [first_text, h]; rfl
theorem first_sign {c : UInt8} {t : Tx} (h : low c = false) (h2 : dig c = false) (h3 : c ≠ 34) : first (c :: t) = if sgn (c :: t) = 0 then none else some (4, (c :: t).take (sgn (c :: t)), sgn (c :: t)) := by
  rw [first, if_neg (by rw [h]; simp), if_neg (by rw [h2]; simp), if_neg h3]
inductive Shape : Tx → Nat × Tx × Nat → Prop
  | word {c t} : low c = true → Shape (c :: t) (1, (c :: t).take (cnt nmc (c :: t)), cnt nmc (c :: t))
  | num {c t} : low c = false → dig c = true → Shape (c :: t) (2, (c :: t).take (numL (c :: t)), numL (c :: t))
  | text {v r} : (∀ c ∈ v, vlc c = true) → Shape (quote v ++ r) (3, v, (quote v).length)
  | sign {c t} : low c = false → dig c = false → c ≠ 34 → sgn (c :: t) ≠ 0 → Shape (c :: t) (4, (c :: t).take (sgn (c :: t)), sgn (c :: t))
theorem Shape.first {s : Tx} {r : Nat × Tx × Nat} (h : Shape s r) : first s = some r := by
  cases h with
  | word h => exact first_word h
  | num h h2 => exact first_num h h2
  | @text v r h =>
    show Proofs.YtjhodmpgggaknaaGreatDoor.first (34 :: ((esc v ++ [34]) ++ r)) = _
    rw [List.append_assoc, List.singleton_append, first_text_some (unqP_iff.2 ⟨rfl, h⟩)]
    simp [quote]
    omega
  | sign h h2 h3 h4 => rw [first_sign h h2 h3, if_neg h4]
theorem shape_of {s : Tx} {r : Nat × Tx × Nat} (h : first s = some r) : Shape s r := by
  cases s with
  | nil => cases h
  | cons c t =>
    cases h1 : low c
    · cases h2 : dig c
      · by_cases h3 : c = 34
        · subst h3
          cases hu : unqP [] t with
          | none => rw [first_text_none hu] at h; cases h
          | some p =>
            obtain ⟨v, q⟩ := p
            rw [first_text_some hu] at h
            cases h
            obtain ⟨rfl, hv⟩ := unqP_iff.1 hu
            have := Shape.text (r := q) hv
            have e1 : quote v ++ q = 34 :: (esc v ++ 34 :: q) := by simp [quote]
            have e2 : (quote v).length = (esc v ++ 34 :: q).length + 1 - q.length := by simp [quote]; omega
            rw [e1, e2] at this
            exact this
        · rw [first_sign h1 h2 h3] at h
          split at h
          · cases h
          · rename_i h4
            cases h
            exact .sign h1 h2 h3 h4
      · rw [first_num h1 h2] at h
        cases h
        exact .num h1 h2
    · rw [first_word h1] at h
      cases h
      exact .word h1
theorem numL_pos {c : UInt8} {t : Tx} (h : dig c = true) : 0 < numL (c :: t) := by
  unfold numL
  rw [cnt_pos h]
  omega
/-- how long it is, and that it stands there as its form. -/
theorem first_form {s : Tx} {k : Nat} {x : Tx} {u : Nat} (h : first s = some (k, x, u)) : 0 < u ∧ u ≤ s.length ∧ s.take u = form k x ∧ (form k x).length = u ∧ 1 ≤ k ∧ k ≤ 4 ∧ x.length ≤ u := by
  have h' := shape_of h
  cases h' with
  | @word c t g =>
    have := cnt_le nmc (c :: t)
    refine ⟨by rw [cnt_pos (low_nmc g)]; omega, this, rfl, ?_, by omega, by omega, by simp; omega⟩
    show (List.take _ (c :: t)).length = _
    rw [List.length_take]; omega
  | @num c t g h2 =>
    have := numL_le (c :: t)
    refine ⟨numL_pos h2, this, rfl, ?_, by omega, by omega, by simp; omega⟩
    show (List.take _ (c :: t)).length = _
    rw [List.length_take]; omega
  | @text _ r g =>
    refine ⟨by simp [quote], by simp, by rw [List.take_left]; rfl, rfl, by omega, by omega, ?_⟩
    have := esc_len2 x
    simp [quote]; omega
  | @sign c t g h2 h3 h4 =>
    have := sgn_le (c :: t)
    refine ⟨by omega, this, rfl, ?_, by omega, by omega, by simp; omega⟩
    show (List.take _ (c :: t)).length = _
    rw [List.length_take]; omega
/-- what a byte behind changes: nothing, if it ends tokens. -/
theorem first_app {s : Tx} {k : Nat} {x : Tx} {u : Nat} (h : first s = some (k, x, u)) {c : UInt8} (hc : ends c = true) (t : Tx) : first (s ++ c :: t) = some (k, x, u) := by
  have h' := shape_of h
  cases h' with
  | @word d q g =>
    rw [List.cons_append, first_word g]
    rw [← List.cons_append, cnt_stop (ends_iff hc).1, List.take_append_of_le_length (cnt_le _ _)]
  | @num d q g h2 =>
    rw [List.cons_append, first_num g h2]
    rw [← List.cons_append, numL_app hc, List.take_append_of_le_length (numL_le _)]
  | @text _ r g =>
    rw [List.append_assoc]
    exact (Shape.text g).first
  | @sign d q g h2 h3 h4 =>
    rw [List.cons_append, first_sign g h2 h3]
    rw [← List.cons_append, sgn_app hc t _ (by simp), if_neg h4, List.take_append_of_le_length (sgn_le _)]
theorem alone_stop {c : UInt8} (h : blk c = true ∨ c = 35) : alone c = false ∧ withE c = false ∧ low c = false ∧ dig c = false ∧ c ≠ 34 := by
  have hc : c = 32 ∨ c = 9 ∨ c = 10 ∨ c = 13 ∨ c = 35 := by
    rcases h with h | h
    · unfold blk at h
      simp only [Bool.or_eq_true, beq_iff_eq] at h
      rcases h with ((h | h) | h) | h
      · exact .inl (UInt8.toNat_inj.1 h)
      · exact .inr (.inl (UInt8.toNat_inj.1 h))
      · exact .inr (.inr (.inl (UInt8.toNat_inj.1 h)))
      · exact .inr (.inr (.inr (.inl (UInt8.toNat_inj.1 h))))
    · exact .inr (.inr (.inr (.inr h)))
  rcases hc with rfl | rfl | rfl | rfl | rfl <;> decide
theorem sgn_zero {c : UInt8} {t : Tx} (h1 : alone c = false) (h2 : withE c = false) : sgn (c :: t) = 0 := by
  cases t with
  | nil => rw [sgn, if_neg (by rw [h1]; simp)]
  | cons d t => rw [sgn, if_neg (by rw [h2]; simp), if_neg (by rw [h1]; simp)]
/-- no token begins with what stands between. -/
theorem first_gap {s : Tx} {r : Nat × Tx × Nat} (h : first s = some r) (t : Tx) : gap (s ++ t) = 0 := by
  cases s with
  | nil => cases h
  | cons c q =>
    have key : ¬ (blk c = true ∨ c = 35) := fun hc => by
      obtain ⟨h1, h2, h3, h4, h5⟩ := alone_stop hc
      rw [first_sign h3 h4 h5, if_pos (sgn_zero h1 h2)] at h
      cases h
    rw [List.cons_append]
    exact gap_stop _ (by simpa using fun h => key (.inl h)) fun h => key (.inr h)

/-- tokens of a text, each with its place; at last the place where something else stands. -/
structure Tk where
  kind : Nat
  text : Tx
  at_ : Nat
inductive Scan : Nat → Tx → List Tk → Option Nat → Prop
  | done {at_ s} : gap s = s.length → Scan at_ s [] none
  | bad {at_ s} : gap s < s.length → first (s.drop (gap s)) = none → Scan at_ s [] (some (at_ + gap s))
  | tok {at_ s k x u l b} : gap s < s.length → first (s.drop (gap s)) = some (k, x, u) → Scan (at_ + gap s + u) (s.drop (gap s + u)) l b → Scan at_ s (⟨k, x, at_ + gap s⟩ :: l) b
theorem scan_uniq {at_ : Nat} {s : Tx} {l l' : List Tk} {b b' : Option Nat} (h : Scan at_ s l b) (h' : Scan at_ s l' b') : l = l' ∧ b = b' := by
  induction h generalizing l' b' with
  | done h1 =>
    cases h' with
    | done => exact ⟨rfl, rfl⟩
    | bad h2 => omega
    | tok h2 => omega
  | bad h1 h2 =>
    cases h' with
    | done h3 => omega
    | bad => exact ⟨rfl, rfl⟩
    | tok h3 h4 => rw [h2] at h4; cases h4
  | tok h1 h2 h3 ih =>
    cases h' with
    | done h3 => omega
    | bad h4 h5 => rw [h2] at h5; cases h5
    | tok h4 h5 h6 =>
      rw [h2] at h5
      cases h5
      obtain ⟨rfl, rfl⟩ := ih h6
      exact ⟨rfl, rfl⟩
/-- what stands ahead of a text and is none of its tokens. -/
theorem scan_ahead {p : Tx} {at_ : Nat} {s : Tx} {l : List Tk} {b : Option Nat} (hp : gap (p ++ s) = p.length + gap s) (h : Scan (at_ + p.length) s l b) : Scan at_ (p ++ s) l b := by
  have hd : ∀ n, (p ++ s).drop (p.length + n) = s.drop n := fun n => by rw [← List.drop_drop, List.drop_left]
  cases h with
  | done h2 => exact .done (by rw [hp, h2]; simp)
  | bad h2 h3 =>
    have := Scan.bad (at_ := at_) (s := p ++ s) (by rw [hp]; simp; omega) (by rw [hp, hd]; exact h3)
    rw [hp, ← Nat.add_assoc] at this
    exact this
  | @tok _ _ k x u l b h2 h3 h4 =>
    have := Scan.tok (at_ := at_) (s := p ++ s) (l := l) (b := b) (k := k) (x := x) (u := u) (by rw [hp]; simp; omega) (by rw [hp, hd]; exact h3) (by
      rw [hp, Nat.add_assoc p.length, hd, ← Nat.add_assoc]
      exact h4)
    rw [hp, ← Nat.add_assoc] at this
    exact this
def Tk.form (x : Tk) : Tx := Proofs.YtjhodmpgggaknaaGreatDoor.form x.kind x.text
def Tk.key (x : Tk) : Nat × Tx := (x.kind, x.text)
end Go.Proofs.YtjhodmpgggaknaaGreatDoor
/- Plain mathematics of lex: where one stands in a text whose tokens are told one by one. No program in it. -/
namespace Go.Proofs.YtjhodmpgggaknaaGreatDoor

theorem scan_step {p : Nat} {r : Tx} {ls : List Tk} {b : Option Nat} (h : Scan p r ls b) :
    (gap r = r.length ∧ ls = [] ∧ b = none) ∨ (gap r < r.length ∧ first (r.drop (gap r)) = none ∧ ls = [] ∧ b = some (p + gap r)) ∨
    (gap r < r.length ∧ ∃ k x u l', first (r.drop (gap r)) = some (k, x, u) ∧ ls = ⟨k, x, p + gap r⟩ :: l' ∧ Scan (p + gap r + u) (r.drop (gap r + u)) l' b) := by
  cases h with
  | done h => exact .inl ⟨h, rfl, rfl⟩
  | bad h1 h2 => exact .inr (.inl ⟨h1, h2, rfl, rfl⟩)
  | tok h1 h2 h3 => exact .inr (.inr ⟨h1, _, _, _, _, h2, rfl, h3⟩)
/-- k tokens are told; the next one, if there is any, stands at a place. -/
def Pos (s : Tx) (l : List Tk) (b : Option Nat) (k at_ : Nat) : Prop :=
  ∃ p, at_ = p + gap (s.drop p) ∧ p ≤ s.length ∧ Scan p (s.drop p) (l.drop k) b
theorem Pos.end {s : Tx} {l : List Tk} {b : Option Nat} {k at_ : Nat} (h : Pos s l b k at_) (he : at_ = s.length) : l.drop k = [] ∧ b = none := by
  obtain ⟨p, rfl, hp, hs⟩ := h
  have hl : (s.drop p).length = s.length - p := by simp
  rcases scan_step hs with ⟨_, h1, h2⟩ | ⟨h1, _⟩ | ⟨h1, _⟩
  · exact ⟨h1, h2⟩
  · omega
  · omega
theorem Pos.bad {s : Tx} {l : List Tk} {b : Option Nat} {k at_ : Nat} (h : Pos s l b k at_) (hlt : at_ < s.length) (hf : first (s.drop at_) = none) : l.drop k = [] ∧ b = some at_ := by
  obtain ⟨p, rfl, hp, hs⟩ := h
  have hl : (s.drop p).length = s.length - p := by simp
  rw [← List.drop_drop] at hf
  rcases scan_step hs with ⟨h1, _⟩ | ⟨_, _, h1, h2⟩ | ⟨_, _, _, _, _, h1, _⟩
  · omega
  · exact ⟨h1, h2⟩
  · rw [hf] at h1; cases h1
theorem Pos.tok {s : Tx} {l : List Tk} {b : Option Nat} {k at_ : Nat} (h : Pos s l b k at_) (hlt : at_ < s.length) {kd : Nat} {x : Tx} {u : Nat} (hf : first (s.drop at_) = some (kd, x, u)) :
    l[k]? = some ⟨kd, x, at_⟩ ∧ at_ + u ≤ s.length ∧ Pos s l b (k + 1) (at_ + u + gap (s.drop (at_ + u))) := by
  obtain ⟨p, rfl, hp, hs⟩ := h
  have hl : (s.drop p).length = s.length - p := by simp
  obtain ⟨hu, hul, _⟩ := first_form hf
  rw [List.length_drop] at hul
  rw [← List.drop_drop] at hf
  rcases scan_step hs with ⟨h1, _⟩ | ⟨_, h1, _⟩ | ⟨_, k', x', u', l', h1, h2, h3⟩
  · omega
  · rw [hf] at h1; cases h1
  · rw [hf] at h1
    cases h1
    have hd : l.drop (k + 1) = l' := by
      rw [← List.drop_drop, h2]; rfl
    refine ⟨?_, by omega, p + gap (s.drop p) + u, rfl, by omega, ?_⟩
    · have := congrArg (fun q => q[0]?) h2
      simpa using this
    · rw [hd]
      rw [List.drop_drop, ← Nat.add_assoc] at h3
      exact h3
/-- what is told one by one: tokens, each with 0; at last what stands where none does. -/
def bads : Option Nat → List (Tk × Nat)
  | none => []
  | some p => [(⟨0, [], p⟩, 90)]
def told (l : List Tk) (b : Option Nat) : List (Tk × Nat) := l.map (fun x => (x, 0)) ++ bads b
theorem drop_nil {l : List Tk} {k : Nat} (h : l.drop k = []) (hk : k ≤ l.length) : k = l.length := by
  have := congrArg List.length h
  simp at this; omega
theorem scan_mem {p : Nat} {s : Tx} {l : List Tk} {b : Option Nat} (h : Scan p s l b) : l.length ≤ s.length ∧ (∀ x ∈ l, x.text.length ≤ s.length ∧ p ≤ x.at_ ∧ x.at_ < p + s.length ∧ 1 ≤ x.kind ∧ x.kind ≤ 4) ∧ (∀ q, b = some q → p ≤ q ∧ q < p + s.length) := by
  induction h with
  | done => exact ⟨by simp, (fun x hx => by cases hx), (fun q hq => by cases hq)⟩
  | bad h => exact ⟨by simp, (fun x hx => by cases hx), (fun q hq => by cases hq; omega)⟩
  | @tok at_ s k x u l b h1 h2 h3 ih =>
    obtain ⟨hu, hul, _, _, hk1, hk2, hx⟩ := first_form h2
    simp only [List.length_drop] at hul
    obtain ⟨i1, i2, i3⟩ := ih
    simp only [List.length_drop] at i1 i2 i3
    refine ⟨by simp only [List.length_cons]; omega, ?_, ?_⟩
    · intro y hy
      rcases List.mem_cons.1 hy with rfl | hy
      · exact ⟨by simp only []; omega, by simp only []; omega, by simp only []; omega, hk1, hk2⟩
      · obtain ⟨a1, a2, a3, a4⟩ := i2 y hy
        exact ⟨by omega, by omega, by omega, a4⟩
    · intro q hq
      have := i3 q hq
      omega
end Go.Proofs.YtjhodmpgggaknaaGreatDoor
/- Plain mathematics of lex: tokens reckoned. No program in it. -/
namespace Go.Proofs.YtjhodmpgggaknaaGreatDoor


/-- tokens reckoned. -/
def scanF : Nat → Nat → Tx → List Tk × Option Nat
  | 0, _, _ => ([], none)
  | n + 1, p, s => if gap s = s.length then ([], none) else
    match first (s.drop (gap s)) with
    | none => ([], some (p + gap s))
    | some q => (⟨q.1, q.2.1, p + gap s⟩ :: (scanF n (p + gap s + q.2.2) (s.drop (gap s + q.2.2))).1, (scanF n (p + gap s + q.2.2) (s.drop (gap s + q.2.2))).2)
theorem scanF_ok : ∀ (n p : Nat) (s : Tx), s.length < n → Scan p s (scanF n p s).1 (scanF n p s).2
  | 0, p, s, h => by omega
  | n + 1, p, s, h => by
    have hg := gap_le s
    unfold scanF
    by_cases h1 : gap s = s.length
    · rw [if_pos h1]; exact .done h1
    · rw [if_neg h1]
      cases hf : first (s.drop (gap s)) with
      | none => exact .bad (by omega) hf
      | some q =>
        obtain ⟨k, x, u⟩ := q
        obtain ⟨hu, hl, _⟩ := first_form hf
        simp only [List.length_drop] at hl
        exact .tok (by omega) hf (scanF_ok n _ _ (by simp; omega))
end Go.Proofs.YtjhodmpgggaknaaGreatDoor
