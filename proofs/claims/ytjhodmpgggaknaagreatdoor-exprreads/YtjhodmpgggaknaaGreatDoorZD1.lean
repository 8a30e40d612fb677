/- Plain mathematics of the document's way: whole texts that are words, numbers, signs; the longest one that a text begins with. No program in it. -/
import Derived.Test.YtjhodmpgggaknaaGreatDoorZGB
namespace Go.Proofs.YtjhodmpgggaknaaGreatDoor

def wordB (s : Tx) : Bool := !s.isEmpty && s.all nmc && low (s.headD 0)
def digsR (s : Tx) : Bool := !s.isEmpty && s.all dig
def nd (c : UInt8) : Bool := c.toNat != 46
def numB (s : Tx) : Bool := if cnt nd s = s.length then digsR s else digsR (s.take (cnt nd s)) && digsR (s.drop (cnt nd s + 1))
def signs : List Tx := [[60, 61], [62, 61], [61, 61], [33, 61], [94, 61], [123], [125], [40], [41], [91], [93], [44], [58], [59], [61], [60], [62], [45]]
def signB (s : Tx) : Bool := signs.contains s
def kindP (s : Tx) : Nat × Tx := if wordB s then (1, s) else if numB s then (2, s) else if signB s then (4, s) else (0, [])
theorem nd_iff {c : UInt8} : nd c = true ↔ c ≠ 46 := by
  unfold nd
  rw [bne_iff_ne]
  constructor
  · rintro h rfl; exact h rfl
  · intro h e; exact h (UInt8.toNat_inj.1 e)
theorem all_take_iff {f : UInt8 → Bool} : ∀ (s : Tx) (e : Nat), e ≤ s.length → ((s.take e).all f = true ↔ e ≤ cnt f s)
  | [], e, h => by simp at h; subst h; simp
  | c :: t, 0, _ => by simp
  | c :: t, e + 1, h => by
    rw [List.take_succ_cons, List.all_cons]
    cases hc : f c
    · rw [cnt_zero hc]; simp
    · rw [cnt_pos hc, Bool.true_and, all_take_iff t e (by simpa using h)]
      omega
theorem digsR_take {s : Tx} {e : Nat} (h : e ≤ s.length) : digsR (s.take e) = true ↔ 1 ≤ e ∧ e ≤ cnt dig s := by
  unfold digsR
  rw [Bool.and_eq_true, all_take_iff s e h]
  have : (!(s.take e).isEmpty) = true ↔ 1 ≤ e := by
    cases e with
    | zero => simp
    | succ e => cases s with
      | nil => simp at h
      | cons c t => simp
  rw [this]
theorem digsR_head {c : UInt8} {t : Tx} (h : dig c = false) : digsR (c :: t) = false := by
  unfold digsR; simp [h]
/-- what begins with no digit is no number. -/
theorem numB_head {c : UInt8} {t : Tx} (h : dig c = false) : numB (c :: t) = false := by
  unfold numB
  split
  · exact digsR_head h
  · by_cases hc : c = 46
    · subst hc
      rw [cnt_zero (by decide)]
      rfl
    · rw [cnt_pos (nd_iff.2 hc), List.take_succ_cons, digsR_head h]
      rfl
theorem dig_nd {c : UInt8} (h : dig c = true) : nd c = true := nd_iff.2 fun e => by subst e; exact absurd h (by decide)
theorem digsR_bad {a b : Tx} {c : UInt8} (h : dig c = false) : digsR (a ++ c :: b) = false := by
  unfold digsR
  simp [h]
theorem cnt_run {f : UInt8 → Bool} : ∀ {a : Tx} {b : Tx}, (∀ c ∈ a, f c = true) → cnt f (a ++ b) = a.length + cnt f b
  | [], b, _ => by simp
  | d :: a, b, h => by
    rw [List.cons_append, cnt_pos (h d (by simp)), cnt_run (fun c hc => h c (by simp [hc])), List.length_cons]
    omega
/-- digits, then what is none. -/
theorem numB_run {a : Tx} {d : UInt8} {b : Tx} (ha0 : a ≠ []) (ha : ∀ c ∈ a, dig c = true) (hd : dig d = false) : numB (a ++ d :: b) = (if d = 46 then digsR b else false) := by
  have hn : ∀ c ∈ a, nd c = true := fun c hc => dig_nd (ha c hc)
  unfold numB
  by_cases h46 : d = 46
  · subst h46
    have e : cnt nd (a ++ 46 :: b) = a.length := by rw [cnt_run hn, cnt_zero (by decide)]; rfl
    rw [e, if_pos rfl, if_neg (by simp), List.take_left]
    have hda : digsR a = true := by
      unfold digsR
      cases a with
      | nil => exact absurd rfl ha0
      | cons x y => simp; exact ⟨ha x (by simp), fun c hc => ha c (by simp [hc])⟩
    have e2 : (a ++ 46 :: b).drop (a.length + 1) = b := by rw [← List.drop_drop, List.drop_left]; rfl
    rw [hda, e2]
    rfl
  · rw [if_neg h46]
    have e : cnt nd (a ++ d :: b) = a.length + (cnt nd b + 1) := by rw [cnt_run hn, cnt_pos (nd_iff.2 h46)]
    split
    · exact digsR_bad hd
    · have e2 : (a ++ d :: b).take (cnt nd (a ++ d :: b)) = a ++ d :: b.take (cnt nd b) := by
        rw [e, List.take_append, List.take_of_length_le (by omega), Nat.add_sub_cancel_left, List.take_succ_cons]
      rw [e2, digsR_bad hd]
      rfl
theorem numB_all {a : Tx} (ha0 : a ≠ []) (ha : ∀ c ∈ a, dig c = true) : numB a = true := by
  unfold numB
  rw [if_pos (cnt_all fun c hc => dig_nd (ha c hc))]
  unfold digsR
  cases a with
  | nil => exact absurd rfl ha0
  | cons x y => simp; exact ⟨ha x (by simp), fun c hc => ha c (by simp [hc])⟩
theorem signB_head {c : UInt8} {t : Tx} (h : low c = true ∨ dig c = true) : signB (c :: t) = false := by
  cases hb : signB (c :: t)
  · rfl
  · exfalso
    unfold signB signs at hb
    rw [List.contains_iff_mem] at hb
    simp only [List.mem_cons, List.cons.injEq, List.not_mem_nil, or_false] at hb
    have : low c = false ∧ dig c = false := by
      rcases hb with ⟨rfl, _⟩ | ⟨rfl, _⟩ | ⟨rfl, _⟩ | ⟨rfl, _⟩ | ⟨rfl, _⟩ | ⟨rfl, _⟩ | ⟨rfl, _⟩ | ⟨rfl, _⟩ | ⟨rfl, _⟩ | ⟨rfl, _⟩ | ⟨rfl, _⟩ | ⟨rfl, _⟩ | ⟨rfl, _⟩ | ⟨rfl, _⟩ | ⟨rfl, _⟩ | ⟨rfl, _⟩ | ⟨rfl, _⟩ | ⟨rfl, _⟩ <;> decide
    rcases h with h | h
    · rw [this.1] at h; cases h
    · rw [this.2] at h; cases h
theorem signB_one (c : UInt8) : signB [c] = alone c := by
  unfold signB signs alone
  simp
theorem signB_two (c d : UInt8) : signB [c, d] = (d == 61 && withE c) := by
  unfold signB signs withE
  by_cases h : d = 61
  · subst h; simp
  · have h' : (d == 61) = false := by simpa using h
    simp [h, h']
theorem signB_more (c d e : UInt8) (t : Tx) : signB (c :: d :: e :: t) = false := by
  unfold signB signs
  simp

/-- which beginnings are tokens; the longest of the first so many. -/
def good (r : Tx) (e : Nat) : Bool := decide ((kindP (r.take e)).1 ≠ 0)
def lg (r : Tx) : Nat → Nat
  | 0 => 0
  | e + 1 => if good r (e + 1) then e + 1 else lg r e
theorem lg_eq {r : Tx} {u g : Nat} (h : ∀ e, 1 ≤ e → e ≤ r.length → (good r e = true ↔ e ≤ u ∧ e ≠ g)) (hg : g ≠ u) (hg0 : g ≠ 0) : ∀ e, e ≤ r.length → lg r e = if e < u then (if e = g then e - 1 else e) else u
  | 0, _ => by
    show 0 = _
    by_cases hu : 0 < u
    · rw [if_pos hu, if_neg (by omega)]
    · rw [if_neg hu]; omega
  | e + 1, he => by
    have ih := lg_eq h hg hg0 e (by omega)
    have hh := h (e + 1) (by omega) he
    rw [lg]
    by_cases h1 : e + 1 ≤ u ∧ e + 1 ≠ g
    · rw [if_pos (hh.2 h1)]
      by_cases h2 : e + 1 < u
      · rw [if_pos h2, if_neg h1.2]
      · rw [if_neg h2]; omega
    · rw [if_neg (fun h2 => h1 (hh.1 h2)), ih]
      by_cases h2 : e + 1 = g
      · by_cases h3 : e + 1 < u
        · rw [if_pos h3, if_pos h2, if_pos (by omega), if_neg (by omega)]
          omega
        · rw [if_neg h3, if_neg (by omega)]
      · rw [if_neg (by omega), if_neg (by omega)]
/-- when the search ends. -/
def over (r : Tx) (e : Nat) : Bool := (decide (0 < lg r e) && decide (lg r e + 1 < e)) || (decide (lg r e = 0) && decide (2 < e))
theorem over_lg {r : Tx} {u g : Nat} (h : ∀ e, 1 ≤ e → e ≤ r.length → (good r e = true ↔ e ≤ u ∧ e ≠ g)) (hg : g ≠ u) (hg0 : g ≠ 0) {e : Nat} (he : e ≤ r.length) (ho : over r e = true) : lg r e = u := by
  have hl := lg_eq h hg hg0 e he
  unfold over at ho
  simp only [Bool.or_eq_true, Bool.and_eq_true, decide_eq_true_eq] at ho
  by_cases h1 : e < u
  · rw [if_pos h1] at hl
    by_cases h2 : e = g
    · rw [if_pos h2] at hl; omega
    · rw [if_neg h2] at hl; omega
  · rw [if_neg h1] at hl; exact hl
/-- the kind of the tokens that begin with a byte. -/
def kd (c : UInt8) : Nat := if low c then 1 else if dig c then 2 else 4
theorem shapes {c : UInt8} {t : Tx} (h34 : c ≠ 34) : ∃ u g, g ≠ u ∧ g ≠ 0 ∧ u ≤ (c :: t).length ∧ (∀ e, 1 ≤ e → e ≤ (c :: t).length → (good (c :: t) e = true ↔ e ≤ u ∧ e ≠ g) ∧ (kindP ((c :: t).take e) = (kd c, (c :: t).take e) ∨ kindP ((c :: t).take e) = (0, []))) ∧
    first (c :: t) = if u = 0 then none else some (kd c, (c :: t).take u, u) := by
  have tk : ∀ e, 1 ≤ e → (c :: t).take e = c :: t.take (e - 1) := fun e he => by
    obtain ⟨n, rfl⟩ : ∃ n, e = n + 1 := ⟨e - 1, by omega⟩
    rw [List.take_succ_cons]; rfl
  cases h1 : low c
  · have hw : ∀ e, 1 ≤ e → wordB ((c :: t).take e) = false := fun e he => by
      rw [tk e he]; unfold wordB; simp [h1]
    cases h2 : dig c
    · -- signs
      have hk : kd c = 4 := by unfold kd; rw [if_neg (by rw [h1]; simp), if_neg (by rw [h2]; simp)]
      have hn : ∀ e, 1 ≤ e → numB ((c :: t).take e) = false := fun e he => by rw [tk e he]; exact numB_head h2
      have hkp : ∀ e, 1 ≤ e → kindP ((c :: t).take e) = if signB ((c :: t).take e) then (4, (c :: t).take e) else (0, []) := fun e he => by
        unfold kindP
        rw [if_neg (by rw [hw e he]; simp), if_neg (by rw [hn e he]; simp)]
      have hgd : ∀ e, 1 ≤ e → good (c :: t) e = signB ((c :: t).take e) := fun e he => by
        unfold good
        rw [hkp e he]
        cases signB ((c :: t).take e) <;> simp
      have hor : ∀ e, 1 ≤ e → (kindP ((c :: t).take e) = (4, (c :: t).take e) ∨ kindP ((c :: t).take e) = (0, [])) := fun e he => by
        rw [hkp e he]
        cases signB ((c :: t).take e)
        · exact .inr rfl
        · exact .inl rfl
      rw [first_sign h1 h2 h34, hk]
      cases t with
      | nil =>
        refine ⟨sgn [c], 2, by rw [sgn]; split <;> omega, by omega, sgn_le _, fun e he1 he2 => ⟨?_, hor e he1⟩, rfl⟩
        have he : e = 1 := by simp at he2; omega
        subst he
        rw [hgd 1 (by omega), List.take_of_length_le (by simp), signB_one, sgn]
        cases alone c <;> simp
      | cons d t =>
        refine ⟨sgn (c :: d :: t), if alone c then 3 else 1, ?_, by split <;> omega, sgn_le _, fun e he1 he2 => ⟨?_, hor e he1⟩, rfl⟩
        · rw [sgn]
          cases alone c
          · simp only [Bool.false_eq_true, if_false]
            split <;> omega
          · simp only [if_true]
            split <;> omega
        · rw [hgd e he1]
          match e, he1 with
          | 1, _ =>
            show signB [c] = true ↔ _
            rw [signB_one, sgn]
            cases ha : alone c
            · simp
            · simp only [if_true]
              constructor
              · intro _
                refine ⟨?_, by omega⟩
                split <;> omega
              · intro _; trivial
          | 2, _ =>
            show signB [c, d] = true ↔ _
            rw [signB_two, sgn]
            by_cases hd : d = 61 ∧ withE c = true
            · rw [if_pos hd, hd.1, hd.2]
              simp only [beq_self_eq_true, Bool.and_self, true_iff]
              refine ⟨by omega, by split <;> omega⟩
            · rw [if_neg hd]
              constructor
              · intro h
                exfalso
                rw [Bool.and_eq_true, beq_iff_eq] at h
                exact hd h
              · rintro ⟨h, _⟩
                exfalso
                revert h
                split <;> omega
          | n + 3, _ =>
            cases t with
            | nil => simp at he2
            | cons x t =>
              rw [List.take_succ_cons, List.take_succ_cons, List.take_succ_cons, signB_more]
              have := sgn_two (c :: d :: x :: t)
              constructor
              · intro h; cases h
              · rintro ⟨h, _⟩; omega
    · -- numbers
      have hk : kd c = 2 := by unfold kd; rw [if_neg (by rw [h1]; simp), if_pos h2]
      have hs : ∀ e, 1 ≤ e → signB ((c :: t).take e) = false := fun e he => by rw [tk e he]; exact signB_head (.inr h2)
      have hkp : ∀ e, 1 ≤ e → kindP ((c :: t).take e) = if numB ((c :: t).take e) then (2, (c :: t).take e) else (0, []) := fun e he => by
        unfold kindP
        rw [if_neg (by rw [hw e he]; simp), hs e he]
        rfl
      have hgd : ∀ e, 1 ≤ e → good (c :: t) e = numB ((c :: t).take e) := fun e he => by
        unfold good
        rw [hkp e he]
        cases numB ((c :: t).take e) <;> simp
      have hor : ∀ e, 1 ≤ e → (kindP ((c :: t).take e) = (2, (c :: t).take e) ∨ kindP ((c :: t).take e) = (0, [])) := fun e he => by
        rw [hkp e he]
        cases numB ((c :: t).take e)
        · exact .inr rfl
        · exact .inl rfl
      have hpos := numL_pos (t := t) h2
      rw [first_num h1 h2, hk]
      have hn0 : 1 ≤ cnt dig (c :: t) := by rw [cnt_pos h2]; omega
      refine ⟨numL (c :: t), cnt dig (c :: t) + 1, ?_, by omega, numL_le _, fun e he1 he2 => ⟨?_, hor e he1⟩, by rw [if_neg (by omega)]⟩
      · unfold numL fract
        split
        · omega
        · split
          · split <;> omega
          · omega
      · rw [hgd e he1]
        by_cases hle : e ≤ cnt dig (c :: t)
        · have h3 : numB ((c :: t).take e) = true := numB_all (by rw [tk e he1]; simp) (fun x hx => by
            have := (all_take_iff (f := dig) (c :: t) e he2).2 hle
            exact List.all_eq_true.1 this x hx)
          rw [h3]
          simp only [true_iff]
          exact ⟨by unfold numL; omega, by omega⟩
        · have hcl := cnt_le dig (c :: t)
          have e1 : (c :: t).take e = (c :: t).take (cnt dig (c :: t)) ++ ((c :: t).drop (cnt dig (c :: t))).take (e - cnt dig (c :: t)) := by
            rw [← List.take_add]; congr 1; omega
          have hmem := cnt_mem (f := dig) (c :: t)
          have ha0 : (c :: t).take (cnt dig (c :: t)) ≠ [] := by rw [tk _ hn0]; simp
          unfold numL
          cases hq : (c :: t).drop (cnt dig (c :: t)) with
          | nil => have := congrArg List.length hq; simp only [List.length_drop, List.length_nil] at this; omega
          | cons d q =>
            have hd := cnt_behind _ hq
            have hql : (d :: q).length = (c :: t).length - cnt dig (c :: t) := by rw [← hq, List.length_drop]
            rw [List.length_cons] at hql
            have e2 : (c :: t).take e = (c :: t).take (cnt dig (c :: t)) ++ d :: q.take (e - cnt dig (c :: t) - 1) := by
              rw [e1, hq]
              obtain ⟨n, hn⟩ : ∃ n, e - cnt dig (c :: t) = n + 1 := ⟨e - cnt dig (c :: t) - 1, by omega⟩
              rw [hn, List.take_succ_cons]; rfl
            rw [e2, numB_run ha0 hmem hd]
            show _ ↔ e ≤ cnt dig (c :: t) + (if d = 46 then (if cnt dig q = 0 then 0 else cnt dig q + 1) else 0) ∧ _
            by_cases h46 : d = 46
            · rw [if_pos h46, if_pos h46, digsR_take (by omega)]
              constructor
              · rintro ⟨h3, h4⟩
                rw [if_neg (by omega)]
                omega
              · rintro ⟨h3, h4⟩
                split at h3 <;> omega
            · rw [if_neg h46, if_neg h46]
              constructor
              · intro h; cases h
              · rintro ⟨h, _⟩; omega
  · -- words
    have hk : kd c = 1 := by unfold kd; rw [if_pos h1]
    have hnd : dig c = false := by
      cases h2 : dig c
      · rfl
      · unfold low at h1; unfold dig at h2
        simp only [Bool.and_eq_true, decide_eq_true_eq] at h1 h2
        omega
    have hn : ∀ e, 1 ≤ e → numB ((c :: t).take e) = false := fun e he => by rw [tk e he]; exact numB_head hnd
    have hs : ∀ e, 1 ≤ e → signB ((c :: t).take e) = false := fun e he => by rw [tk e he]; exact signB_head (.inl h1)
    have hkp : ∀ e, 1 ≤ e → kindP ((c :: t).take e) = if wordB ((c :: t).take e) then (1, (c :: t).take e) else (0, []) := fun e he => by
      unfold kindP
      rw [hn e he, hs e he]
      rfl
    have hgd : ∀ e, 1 ≤ e → good (c :: t) e = wordB ((c :: t).take e) := fun e he => by
      unfold good
      rw [hkp e he]
      cases wordB ((c :: t).take e) <;> simp
    have hor : ∀ e, 1 ≤ e → (kindP ((c :: t).take e) = (1, (c :: t).take e) ∨ kindP ((c :: t).take e) = (0, [])) := fun e he => by
      rw [hkp e he]
      cases wordB ((c :: t).take e)
      · exact .inr rfl
      · exact .inl rfl
    have hcl := cnt_le nmc (c :: t)
    have hpos : 1 ≤ cnt nmc (c :: t) := by rw [cnt_pos (low_nmc h1)]; omega
    rw [first_word h1, hk]
    refine ⟨cnt nmc (c :: t), cnt nmc (c :: t) + 1, by omega, by omega, hcl, fun e he1 he2 => ⟨?_, hor e he1⟩, by rw [if_neg (by omega)]⟩
    rw [hgd e he1]
    have hwb : wordB ((c :: t).take e) = ((c :: t).take e).all nmc := by
      rw [tk e he1]; unfold wordB; simp [h1]
    rw [hwb, all_take_iff _ e he2]
    omega
end Go.Proofs.YtjhodmpgggaknaaGreatDoor
