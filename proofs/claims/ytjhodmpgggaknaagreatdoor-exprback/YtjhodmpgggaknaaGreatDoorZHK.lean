/- The keys of a text; what Parse tells of texts put together. -/
import Derived.Test.YtjhodmpgggaknaaGreatDoorZGE
import Derived.Test.YtjhodmpgggaknaaGreatDoorZGN
namespace Go.Proofs.YtjhodmpgggaknaaGreatDoor

/-- a text has tokens of these keys. -/
def HasK (s : Tx) (ks : List Key) : Prop := ∀ p, ∃ m, Scan p s m none ∧ m.map Tk.key = ks
theorem hasK_of {s : Tx} {l : List Tk} (h : Scan 0 s l none) : HasK s (l.map Tk.key) := fun p => by
  have := scan_shift h p
  rw [Nat.zero_add] at this
  refine ⟨_, this, ?_⟩
  rw [List.map_map]
  rfl
theorem hasK_nil : HasK [] [] := fun _ => ⟨[], .done rfl, rfl⟩
theorem hasK_blank {t : Tx} {ks : List Key} (h : HasK t ks) : HasK (32 :: t) ks := fun p => by
  obtain ⟨m, h1, h2⟩ := h (p + 1)
  exact ⟨m, scan_ahead (p := [32]) (gap_blank t (by decide) |>.trans (Nat.add_comm _ _)) h1, h2⟩
theorem hasK_fit {k : Key} {t : Tx} {ks : List Key} (hf : Fit k t) (h : HasK t ks) : HasK (form k.1 k.2 ++ t) (k :: ks) := fun p => by
  obtain ⟨m, h1, h2⟩ := h (p + (form k.1 k.2).length)
  exact ⟨_, fit_step hf h1, by rw [List.map_cons, h2]; rfl⟩
theorem hasK_open {t : Tx} {ks : List Key} (h : HasK t ks) : HasK (40 :: t) (kOpen :: ks) :=
  hasK_fit (k := kOpen) (fit_sign (by decide) (by decide) (by decide) (by decide) (by decide) t) h
theorem hasK_end {t : Tx} {ks : List Key} (h : HasK t ks) : HasK (41 :: t) (kEnd :: ks) :=
  hasK_fit (k := kEnd) (fit_sign (by decide) (by decide) (by decide) (by decide) (by decide) t) h
theorem hasK_line {s t : Tx} {ks ms : List Key} (h : HasK s ks) (k : HasK t ms) : HasK (s ++ 10 :: t) (ks ++ ms) := fun p => by
  obtain ⟨m, h1, h2⟩ := h p
  obtain ⟨n, h3, h4⟩ := k (p + s.length + 1)
  exact ⟨_, scan_two h1 h3, by rw [List.map_append, h2, h4]⟩
theorem blank_stop {t : Tx} : ∀ d r, (32 : UInt8) :: t = d :: r → nmc d = false := fun d r e => by cases e; decide
theorem hasK_and {t : Tx} {ks : List Key} (h : HasK t ks) : HasK (97 :: 110 :: 100 :: 32 :: t) (kAnd :: ks) :=
  hasK_fit (k := kAnd) (fit_word (by decide) (by decide) (32 :: t) blank_stop) (hasK_blank h)
theorem hasK_or {t : Tx} {ks : List Key} (h : HasK t ks) : HasK (111 :: 114 :: 32 :: t) (kOr :: ks) :=
  hasK_fit (k := kOr) (fit_word (by decide) (by decide) (32 :: t) blank_stop) (hasK_blank h)
theorem hasK_not {t : Tx} {ks : List Key} (h : HasK t ks) : HasK (110 :: 111 :: 116 :: 32 :: t) (kNot :: ks) :=
  hasK_fit (k := kNot) (fit_word (by decide) (by decide) (32 :: t) blank_stop) (hasK_blank h)
theorem hasK_opens : ∀ (n : Nat) {t : Tx} {ks : List Key}, HasK t ks → HasK (List.replicate n 40 ++ t) (List.replicate n kOpen ++ ks)
  | 0, _, _, h => h
  | n + 1, _, _, h => by
    rw [List.replicate_succ, List.replicate_succ, List.cons_append, List.cons_append]
    exact hasK_open (hasK_opens n h)
theorem hasK_ends : ∀ (n : Nat), HasK (List.replicate n 41) (List.replicate n kEnd)
  | 0 => hasK_nil
  | n + 1 => by
    rw [List.replicate_succ, List.replicate_succ]
    exact hasK_end (hasK_ends n)

theorem HasK.keys {s : Tx} {ks : List Key} (h : HasK s ks) : badOf s = none ∧ keysT (tksOf s) = ks := by
  obtain ⟨m, h1, h2⟩ := h 0
  obtain ⟨e1, e2⟩ := scan_uniq (tks_scan s) h1
  refine ⟨e2, ?_⟩
  rw [e1]
  exact h2
/-- of a text whose tokens are a condition. -/
theorem par_mk {s : Tx} {ks : List Key} {t : Tree} (h : HasK s ks) (hs : s.length ≤ 4096) (hp : pE .or ks = some (t, [])) : parseR s = if t.size ≤ 31 then (flat 0 t, 0) else ([], 4) := by
  obtain ⟨e1, e2⟩ := h.keys
  unfold parseR
  rw [if_neg (by omega), e1, if_neg (by simp), e2]
  unfold outP
  rw [hp]
  by_cases hz : t.size ≤ 31
  · simp [hz]
  · simp [hz]
/-- what is read is a condition's. -/
theorem par_inv {s : Tx} (h : (parseR s).2 = 0) : s.length ≤ 4096 ∧ ∃ ks t, HasK s ks ∧ pE .or ks = some (t, []) ∧ t.size ≤ 31 ∧ parseR s = (flat 0 t, 0) := by
  have h0 := h
  unfold parseR at h
  by_cases h1 : 4096 < s.length
  · rw [if_pos h1] at h; cases h
  rw [if_neg h1] at h
  by_cases h2 : badOf s ≠ none
  · rw [if_pos h2] at h; cases h
  rw [if_neg h2] at h
  have h2' : badOf s = none := Decidable.not_not.1 h2
  have hk := hasK_of (h2' ▸ tks_scan s)
  have hkk : (tksOf s).map Tk.key = keysT (tksOf s) := rfl
  rw [hkk] at hk
  refine ⟨by omega, keysT (tksOf s), ?_⟩
  cases hp : pE .or (keysT (tksOf s)) with
  | none =>
    unfold outP at h
    rw [hp] at h
    simp at h
  | some q =>
    obtain ⟨t, r⟩ := q
    by_cases hz : t.size ≤ 31
    · have hr : r = [] := by
        unfold outP at h
        rw [hp] at h
        simp only [if_pos hz] at h
        by_cases hr : r = []
        · exact hr
        · rw [if_pos hr] at h; cases h
      subst hr
      refine ⟨t, hk, rfl, hz, ?_⟩
      rw [par_mk hk (by omega) hp, if_pos hz]
    · exfalso
      unfold outP at h
      rw [hp] at h
      simp only [if_neg hz] at h
      by_cases hr : r = []
      · simp [hr] at h
      · simp [hr] at h
theorem par_code (s : Tx) : (parseR s).2 = 0 ∨ (parseR s).2 ≠ 0 ∧ (parseR s).1 = [] := by
  by_cases h : (parseR s).2 = 0
  · exact .inl h
  · refine .inr ⟨h, ?_⟩
    unfold parseR at h ⊢
    repeat' split
    all_goals first | rfl | skip
    all_goals
      rename_i h1 h2 h3 h4
      exfalso
      rw [if_neg h1, if_neg h2, if_neg h3, if_pos h4] at h
      exact h rfl
/-- parentheses. -/
def roundX (n : Nat) (s : Tx) : Tx := List.replicate n 40 ++ s ++ 10 :: List.replicate n 41
theorem par_round {s : Tx} (n : Nat) (h : (parseR s).2 = 0) (hs : (roundX n s).length ≤ 4096) : parseR (roundX n s) = parseR s := by
  obtain ⟨_, ks, t, h1, h2, h3, h4⟩ := par_inv h
  have hk : HasK (roundX n s) (List.replicate n kOpen ++ ks ++ List.replicate n kEnd) := by
    unfold roundX
    rw [List.append_assoc, List.append_assoc]
    exact hasK_opens n (hasK_line h1 (hasK_ends n))
  rw [par_mk hk hs (pE_rounds h2 n), if_pos h3, h4]
/-- an operator between. -/
def wordX (o : Bool) : Tx := if o then [111, 114] else [97, 110, 100]
def pairX (o : Bool) (s t : Tx) : Tx := 40 :: (s ++ 10 :: 41 :: 32 :: (wordX o ++ 32 :: 40 :: (t ++ [10, 41])))
def negX (s : Tx) : Tx := 110 :: 111 :: 116 :: 32 :: 40 :: (s ++ [10, 41])
theorem par_pair {s t : Tx} (o : Bool) (hl : (pairX o s t).length ≤ 4096) (h : (parseR s).2 = 0) (k : (parseR t).2 = 0) : ∃ a b, (∃ u, pE .or u = some (a, [])) ∧ (∃ u, pE .or u = some (b, [])) ∧ parseR s = (flat 0 a, 0) ∧ parseR t = (flat 0 b, 0) ∧ a.size ≤ 31 ∧ b.size ≤ 31 ∧ parseR (pairX o s t) = if a.size + b.size + 1 ≤ 31 then (flat 0 (.bin o a b), 0) else ([], 4) := by
  obtain ⟨_, ks, a, h1, h2, h3, h4⟩ := par_inv h
  obtain ⟨_, us, b, k1, k2, k3, k4⟩ := par_inv k
  refine ⟨a, b, ⟨_, h2⟩, ⟨_, k2⟩, h4, k4, h3, k3, ?_⟩
  have e2 : HasK (t ++ [10, 41]) (us ++ [kEnd]) := hasK_line k1 (hasK_end hasK_nil)
  have e3 : HasK (wordX o ++ 32 :: 40 :: (t ++ [10, 41])) (opKey o :: kOpen :: (us ++ [kEnd])) := by
    cases o with
    | true => exact hasK_or (hasK_open e2)
    | false => exact hasK_and (hasK_open e2)
  have e4 := hasK_open (hasK_line h1 (hasK_end (hasK_blank e3)))
  exact par_mk e4 hl (pE_pair o h2 k2)
theorem par_neg {s : Tx} (hl : (negX s).length ≤ 4096) (h : (parseR s).2 = 0) : ∃ a, parseR s = (flat 0 a, 0) ∧ parseR (negX s) = if a.size + 1 ≤ 31 then (flat 0 (.neg a), 0) else ([], 4) := by
  obtain ⟨_, ks, a, h1, h2, h3, h4⟩ := par_inv h
  refine ⟨a, h4, ?_⟩
  exact par_mk (hasK_not (hasK_open (hasK_line h1 (hasK_end hasK_nil)))) hl (pE_neg h2)
end Go.Proofs.YtjhodmpgggaknaaGreatDoor
