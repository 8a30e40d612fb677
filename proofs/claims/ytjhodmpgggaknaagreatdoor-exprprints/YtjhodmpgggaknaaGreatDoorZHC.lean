/- Joined: D1 D2 D3. -/
import Derived.Test.YtjhodmpgggaknaaGreatDoorZGB
import Derived.Test.YtjhodmpgggaknaaGreatDoorZGH
/- Plain mathematics of the document's way: whole texts that are words, numbers, signs; the longest one that a text begins with. No program in it. -/
namespace Go.Proofs.YtjhodmpgggaknaaGreatDoor

def wordB (s : Tx) : Bool := !s.isEmpty && s.all nmc && low (s.headD 0)
def digsR (s : Tx) : Bool := !s.isEmpty && s.all dig
def nd (c : UInt8) : Bool := c.toNat != 46
def numB (s : Tx) : Bool := if cnt nd s = s.length then digsR s else digsR (s.take (cnt nd s)) && digsR (s.drop (cnt nd s + 1))
def signs : List Tx := [[60, 61], [62, 61], [61, 61], [33, 61], [94, 61], [123], [125], [40], [41], [91], [93], [44], [58], [59], [61], [60], [62], [45]]
def signB (s : Tx) : Bool := signs.contains s
def kindP (s : Tx) : Nat × Tx := if wordB s then (1, s) else if numB s then (2, s) else if signB s then (4, s) else (0, [])
theorem nd_iff {c : UInt8} : nd c = true ↔ c ≠ 46 := by
  unfold nd
  rw [bne_iff_ne]
  constructor
  · rintro h rfl; exact h rfl
  · intro h e; exact h (UInt8.toNat_inj.1 e)
theorem all_take_iff {f : UInt8 → Bool} : ∀ (s : Tx) (e : Nat), e ≤ s.length → ((s.take e).all f = true ↔ e ≤ cnt f s)
  | [], e, h => by simp at h; subst h; simp
  | c :: t, 0, _ => by simp
  | c :: t, e + 1, h => by
    rw [List.take_succ_cons, List.all_cons]
    cases hc : f c
    · rw [cnt_zero hc]; simp
    · rw [cnt_pos hc, Bool.true_and, all_take_iff t e (by simpa using h)]
      omega
theorem digsR_take {s : Tx} {e : Nat} (h : e ≤ s.length) : digsR (s.take e) = true ↔ 1 ≤ e ∧ e ≤ cnt dig s := by
  unfold digsR
  rw [Bool.and_eq_true, all_take_iff s e h]
  have : (!(s.take e).isEmpty) = true ↔ 1 ≤ e := by
    cases e with
    | zero => simp
    | succ e => cases s with
      | nil => simp at h
      | cons c t => simp
  rw [this]
theorem digsR_head {c : UInt8} {t : Tx} (h : dig c = false) : digsR (c :: t) = false := by
  unfold digsR; simp [h]
/-- what begins with no digit is no number. -/
theorem numB_head {c : UInt8} {t : Tx} (h : dig c = false) : numB (c :: t) = false := by
  unfold numB
  split
  · exact digsR_head h
  · by_cases hc : c = 46
    · subst hc
      rw [cnt_zero (by decide)]
      rfl
    · rw [cnt_pos (nd_iff.2 hc), List.take_succ_cons, digsR_head h]
      rfl
theorem dig_nd {c : UInt8} (h : dig c = true) : nd c = true := nd_iff.2 fun e => by subst e; exact absurd h (by decide)
theorem digsR_bad {a b : Tx} {c : UInt8} (h : dig c = false) : digsR (a ++ c :: b) = false := by
  unfold digsR
  simp [h]
theorem cnt_run {f : UInt8 → Bool} : ∀ {a : Tx} {b : Tx}, (∀ c ∈ a, f c = true) → cnt f (a ++ b) = a.length + cnt f b
  | [], b, _ => by simp
  | d :: a, b, h => by
    rw [List.cons_append, cnt_pos (h d (by simp)), cnt_run (fun c hc => h c (by simp [hc])), List.length_cons]
    omega
/-- digits, then what is none. -/
theorem numB_run {a : Tx} {d : UInt8} {b : Tx} (ha0 : a ≠ []) (ha : ∀ c ∈ a, dig c = true) (hd : dig d = false) : numB (a ++ d :: b) = (if d = 46 then digsR b else false) := by
  have hn : ∀ c ∈ a, nd c = true := fun c hc => dig_nd (ha c hc)
  unfold numB
  by_cases h46 : d = 46
  · subst h46
    have e : cnt nd (a ++ 46 :: b) = a.length := by rw [cnt_run hn, cnt_zero (by decide)]; rfl
    rw [e, if_pos rfl, if_neg (by simp), List.take_left]
    have hda : digsR a = true := by
      unfold digsR
      cases a with
      | nil => exact absurd rfl ha0
      | cons x y => simp; exact ⟨ha x (by simp), fun c hc => ha c (by simp [hc])⟩
    have e2 : (a ++ 46 :: b).drop (a.length + 1) = b := by rw [← List.drop_drop, List.drop_left]; rfl
    rw [hda, e2]
    rfl
  · rw [if_neg h46]
    have e : cnt nd (a ++ d :: b) = a.length + (cnt nd b + 1) := by rw [cnt_run hn, cnt_pos (nd_iff.2 h46)]
    split
    · exact digsR_bad hd
    · have e2 : (a ++ d :: b).take (cnt nd (a ++ d :: b)) = a ++ d :: b.take (cnt nd b) := by
        rw [e, List.take_append, List.take_of_length_le (by omega), Nat.add_sub_cancel_left, List.take_succ_cons]
      rw [e2, digsR_bad hd]
      rfl
theorem numB_all {a : Tx} (ha0 : a ≠ []) (ha : ∀ c ∈ a, dig c = true) : numB a = true := by
  unfold numB
  rw [if_pos (cnt_all fun c hc => dig_nd (ha c hc))]
  unfold digsR
  cases a with
  | nil => exact absurd rfl ha0
  | cons x y => simp; exact ⟨ha x (by simp), fun c hc => ha c (by simp [hc])⟩
theorem signB_head {c : UInt8} {t : Tx} (h : low c = true ∨ dig c = true) : signB (c :: t) = false := by
  cases hb : signB (c :: t)
  · rfl
  · exfalso
    unfold signB signs at hb
    rw [List.contains_iff_mem] at hb
    simp only [List.mem_cons, List.cons.injEq, List.not_mem_nil, or_false] at hb
    have : low c = false ∧ dig c = false := by
      rcases hb with ⟨rfl, _⟩ | ⟨rfl, _⟩ | ⟨rfl, _⟩ | ⟨rfl, _⟩ | ⟨rfl, _⟩ | ⟨rfl, _⟩ | ⟨rfl, _⟩ | ⟨rfl, _⟩ | ⟨rfl, _⟩ | ⟨rfl, _⟩ | ⟨rfl, _⟩ | ⟨rfl, _⟩ | ⟨rfl, _⟩ | ⟨rfl, _⟩ | ⟨rfl, _⟩ | ⟨rfl, _⟩ | ⟨rfl, _⟩ | ⟨rfl, _⟩ <;> decide
    rcases h with h | h
    · rw [this.1] at h; cases h
    · rw [this.2] at h; cases h
theorem signB_one (c : UInt8) : signB [c] = alone c := by
  unfold signB signs alone
  simp
theorem signB_two (c d : UInt8) : signB [c, d] = (d == 61 && withE c) := by
  unfold signB signs withE
  by_cases h : d = 61
  · subst h; simp
  · have h' : (d == 61) = false := by simpa using h
    simp [h, h']
theorem signB_more (c d e : UInt8) (t : Tx) : signB (c :: d :: e :: t) = false := by
  unfold signB signs
  simp

/-- which beginnings are tokens; the longest of the first so many. -/
def good (r : Tx) (e : Nat) : Bool := decide ((kindP (r.take e)).1 ≠ 0)
def lg (r : Tx) : Nat → Nat
  | 0 => 0
  | e + 1 => if good r (e + 1) then e + 1 else lg r e
theorem lg_eq {r : Tx} {u g : Nat} (h : ∀ e, 1 ≤ e → e ≤ r.length → (good r e = true ↔ e ≤ u ∧ e ≠ g)) (hg : g ≠ u) (hg0 : g ≠ 0) : ∀ e, e ≤ r.length → lg r e = if e < u then (if e = g then e - 1 else e) else u
  | 0, _ => by
    show 0 = _
    by_cases hu : 0 < u
    · rw [if_pos hu, if_neg (by omega)]
    · rw [if_neg hu]; omega
  | e + 1, he => by
    have ih := lg_eq h hg hg0 e (by omega)
    have hh := h (e + 1) (by omega) he
    rw [lg]
    by_cases h1 : e + 1 ≤ u ∧ e + 1 ≠ g
    · rw [if_pos (hh.2 h1)]
      by_cases h2 : e + 1 < u
      · rw [if_pos h2, if_neg h1.2]
      · rw [if_neg h2]; omega
    · rw [if_neg (fun h2 => h1 (hh.1 h2)), ih]
      by_cases h2 : e + 1 = g
      · by_cases h3 : e + 1 < u
        · rw [if_pos h3, if_pos h2, if_pos (by omega), if_neg (by omega)]
          omega
        · rw [if_neg h3, if_neg (by omega)]
      · rw [if_neg (by omega), if_neg (by omega)]
/-- when the search ends. -/
def over (r : Tx) (e : Nat) : Bool := (decide (0 < lg r e) && decide (lg r e + 1 < e)) || (decide (lg r e = 0) && decide (2 < e))
theorem over_lg {r : Tx} {u g : Nat} (h : ∀ e, 1 ≤ e → e ≤ r.length → (good r e = true ↔ e ≤ u ∧ e ≠ g)) (hg : g ≠ u) (hg0 : g ≠ 0) {e : Nat} (he : e ≤ r.length) (ho : over r e = true) : lg r e = u := by
  have hl := lg_eq h hg hg0 e he
  unfold over at ho
  simp only [Bool.or_eq_true, Bool.and_eq_true, decide_eq_true_eq] at ho
  by_cases h1 : e < u
  · rw [if_pos h1] at hl
    by_cases h2 : e = g
    · rw [if_pos h2] at hl; omega
    · rw [if_neg h2] at hl; omega
  · rw [if_neg h1] at hl; exact hl
/-- the kind of the tokens that begin with a byte. -/
def kd (c : UInt8) : Nat := if low c then 1 else if dig c then 2 else 4
theorem shapes {c : UInt8} {t : Tx} (h34 : c ≠ 34) : ∃ u g, g ≠ u ∧ g ≠ 0 ∧ u ≤ (c :: t).length ∧ (∀ e, 1 ≤ e → e ≤ (c :: t).length → (good (c :: t) e = true ↔ e ≤ u ∧ e ≠ g) ∧ (kindP ((c :: t).take e) = (kd c, (c :: t).take e) ∨ kindP ((c :: t).take e) = (0, []))) ∧
    first (c :: t) = if u = 0 then none else some (kd c, (c :: t).take u, u) := by
  have tk : ∀ e, 1 ≤ e → (c :: t).take e = c :: t.take (e - 1) := fun e he => by
    obtain ⟨n, rfl⟩ : ∃ n, e = n + 1 := ⟨e - 1, by omega⟩
    rw [List.take_succ_cons]; rfl
  cases h1 : low c
  · have hw : ∀ e, 1 ≤ e → wordB ((c :: t).take e) = false := fun e he => by
      rw [tk e he]; unfold wordB; simp [h1]
    cases h2 : dig c
    · -- signs
      have hk : kd c = 4 := by unfold kd; rw [if_neg (by rw [h1]; simp), if_neg (by rw [h2]; simp)]
      have hn : ∀ e, 1 ≤ e → numB ((c :: t).take e) = false := fun e he => by rw [tk e he]; exact numB_head h2
      have hkp : ∀ e, 1 ≤ e → kindP ((c :: t).take e) = if signB ((c :: t).take e) then (4, (c :: t).take e) else (0, []) := fun e he => by
        unfold kindP
        rw [if_neg (by rw [hw e he]; simp), if_neg (by rw [hn e he]; simp)]
      have hgd : ∀ e, 1 ≤ e → good (c :: t) e = signB ((c :: t).take e) := fun e he => by
        unfold good
        rw [hkp e he]
        cases signB ((c :: t).take e) <;> simp
      have hor : ∀ e, 1 ≤ e → (kindP ((c :: t).take e) = (4, (c :: t).take e) ∨ kindP ((c :: t).take e) = (0, [])) := fun e he => by
        rw [hkp e he]
        cases signB ((c :: t).take e)
        · exact .inr rfl
        · exact .inl rfl
      rw [first_sign h1 h2 h34, hk]
      cases t with
      | nil =>
        refine ⟨sgn [c], 2, by rw [sgn]; split <;> omega, by omega, sgn_le _, fun e he1 he2 => ⟨?_, hor e he1⟩, rfl⟩
        have he : e = 1 := by simp at he2; omega
        subst he
        rw [hgd 1 (by omega), List.take_of_length_le (by simp), signB_one, sgn]
        cases alone c <;> simp
      | cons d t =>
        refine ⟨sgn (c :: d :: t), if alone c then 3 else 1, ?_, by split <;> omega, sgn_le _, fun e he1 he2 => ⟨?_, hor e he1⟩, rfl⟩
        · rw [sgn]
          cases alone c
          · simp only [Bool.false_eq_true, if_false]
            split <;> omega
          · simp only [if_true]
            split <;> omega
        · rw [hgd e he1]
          match e, he1 with
          | 1, _ =>
            show signB [c] = true ↔ _
            rw [signB_one, sgn]
            cases ha : alone c
            · simp
            · simp only [if_true]
              constructor
              · intro _
                refine ⟨?_, by omega⟩
                split <;> omega
              · intro _; trivial
          | 2, _ =>
            show signB [c, d] = true ↔ _
            rw [signB_two, sgn]
            by_cases hd : d = 61 ∧ withE c = true
            · rw [if_pos hd, hd.1, hd.2]
              simp only [beq_self_eq_true, Bool.and_self, true_iff]
              refine ⟨by omega, by split <;> omega⟩
            · rw [if_neg hd]
              constructor
              · intro h
                exfalso
                rw [Bool.and_eq_true, beq_iff_eq] at h
                exact hd h
              · rintro ⟨h, _⟩
                exfalso
                revert h
                split <;> omega
          | n + 3, _ =>
            cases t with
            | nil => simp at he2
            | cons x t =>
              rw [List.take_succ_cons, List.take_succ_cons, List.take_succ_cons, signB_more]
              have := sgn_two (c :: d :: x :: t)
              constructor
              · intro h; cases h
              · rintro ⟨h, _⟩; omega
    · -- numbers
      have hk : kd c = 2 := by unfold kd; rw [if_neg (by rw [h1]; simp), if_pos h2]
      have hs : ∀ e, 1 ≤ e → signB ((c :: t).take e) = false := fun e he => by rw [tk e he]; exact signB_head (.inr h2)
      have hkp : ∀ e, 1 ≤ e → kindP ((c :: t).take e) = if numB ((c :: t).take e) then (2, (c :: t).take e) else (0, []) := fun e he => by
        unfold kindP
        rw [if_neg (by rw [hw e he]; simp), hs e he]
        rfl
      have hgd : ∀ e, 1 ≤ e → good (c :: t) e = numB ((c :: t).take e) := fun e he => by
        unfold good
        rw [hkp e he]
        cases numB ((c :: t).take e) <;> simp
      have hor : ∀ e, 1 ≤ e → (kindP ((c :: t).take e) = (2, (c :: t).take e) ∨ kindP ((c :: t).take e) = (0, [])) := fun e he => by
        rw [hkp e he]
        cases numB ((c :: t).take e)
        · exact .inr rfl
        · exact .inl rfl
      have hpos := numL_pos (t := t) h2
      rw [first_num h1 h2, hk]
      have hn0 : 1 ≤ cnt dig (c :: t) := by rw [cnt_pos h2]; omega
      refine ⟨numL (c :: t), cnt dig (c :: t) + 1, ?_, by omega, numL_le _, fun e he1 he2 => ⟨?_, hor e he1⟩, by rw [if_neg (by omega)]⟩
      · unfold numL fract
        split
        · omega
        · split
          · split <;> omega
          · omega
      · rw [hgd e he1]
        by_cases hle : e ≤ cnt dig (c :: t)
        · have h3 : numB ((c :: t).take e) = true := numB_all (by rw [tk e he1]; simp) (fun x hx => by
            have := (all_take_iff (f := dig) (c :: t) e he2).2 hle
            exact List.all_eq_true.1 this x hx)
          rw [h3]
          simp only [true_iff]
          exact ⟨by unfold numL; omega, by omega⟩
        · have hcl := cnt_le dig (c :: t)
          have e1 : (c :: t).take e = (c :: t).take (cnt dig (c :: t)) ++ ((c :: t).drop (cnt dig (c :: t))).take (e - cnt dig (c :: t)) := by
            rw [← List.take_add]; congr 1; omega
          have hmem := cnt_mem (f := dig) (c :: t)
          have ha0 : (c :: t).take (cnt dig (c :: t)) ≠ [] := by rw [tk _ hn0]; simp
          unfold numL
          cases hq : (c :: t).drop (cnt dig (c :: t)) with
          | nil => have := congrArg List.length hq; simp only [List.length_drop, List.length_nil] at this; omega
          | cons d q =>
            have hd := cnt_behind _ hq
            have hql : (d :: q).length = (c :: t).length - cnt dig (c :: t) := by rw [← hq, List.length_drop]
            rw [List.length_cons] at hql
            have e2 : (c :: t).take e = (c :: t).take (cnt dig (c :: t)) ++ d :: q.take (e - cnt dig (c :: t) - 1) := by
              rw [e1, hq]
              obtain ⟨n, hn⟩ : ∃ n, e - cnt dig (c :: t) = n + 1 := ⟨e - cnt dig (c :: t) - 1, by omega⟩
              rw [hn, List.take_succ_cons]; rfl
            rw [e2, numB_run ha0 hmem hd]
            show _ ↔ e ≤ cnt dig (c :: t) + (if d = 46 then (if cnt dig q = 0 then 0 else cnt dig q + 1) else 0) ∧ _
            by_cases h46 : d = 46
            · rw [if_pos h46, if_pos h46, digsR_take (by omega)]
              constructor
              · rintro ⟨h3, h4⟩
                rw [if_neg (by omega)]
                omega
              · rintro ⟨h3, h4⟩
                split at h3 <;> omega
            · rw [if_neg h46, if_neg h46]
              constructor
              · intro h; cases h
              · rintro ⟨h, _⟩; omega
  · -- words
    have hk : kd c = 1 := by unfold kd; rw [if_pos h1]
    have hnd : dig c = false := by
      cases h2 : dig c
      · rfl
      · unfold low at h1; unfold dig at h2
        simp only [Bool.and_eq_true, decide_eq_true_eq] at h1 h2
        omega
    have hn : ∀ e, 1 ≤ e → numB ((c :: t).take e) = false := fun e he => by rw [tk e he]; exact numB_head hnd
    have hs : ∀ e, 1 ≤ e → signB ((c :: t).take e) = false := fun e he => by rw [tk e he]; exact signB_head (.inl h1)
    have hkp : ∀ e, 1 ≤ e → kindP ((c :: t).take e) = if wordB ((c :: t).take e) then (1, (c :: t).take e) else (0, []) := fun e he => by
      unfold kindP
      rw [hn e he, hs e he]
      rfl
    have hgd : ∀ e, 1 ≤ e → good (c :: t) e = wordB ((c :: t).take e) := fun e he => by
      unfold good
      rw [hkp e he]
      cases wordB ((c :: t).take e) <;> simp
    have hor : ∀ e, 1 ≤ e → (kindP ((c :: t).take e) = (1, (c :: t).take e) ∨ kindP ((c :: t).take e) = (0, [])) := fun e he => by
      rw [hkp e he]
      cases wordB ((c :: t).take e)
      · exact .inr rfl
      · exact .inl rfl
    have hcl := cnt_le nmc (c :: t)
    have hpos : 1 ≤ cnt nmc (c :: t) := by rw [cnt_pos (low_nmc h1)]; omega
    rw [first_word h1, hk]
    refine ⟨cnt nmc (c :: t), cnt nmc (c :: t) + 1, by omega, by omega, hcl, fun e he1 he2 => ⟨?_, hor e he1⟩, by rw [if_neg (by omega)]⟩
    rw [hgd e he1]
    have hwb : wordB ((c :: t).take e) = ((c :: t).take e).all nmc := by
      rw [tk e he1]; unfold wordB; simp [h1]
    rw [hwb, all_take_iff _ e he2]
    omega
end Go.Proofs.YtjhodmpgggaknaaGreatDoor
/- Contracts of the document's own Plain, MayName, Quoted, blank, digits, number, sign, word, kind. -/
namespace Go.Proofs.YtjhodmpgggaknaaGreatDoor
open Go.RowKit Go.Shelf

theorem vlc_no {c : UInt8} (h : (c.toNat : Int) < 32 ∨ 126 < (c.toNat : Int)) : vlc c = false := by
  unfold vlc
  simp
  omega
theorem vlc_ok {c : UInt8} (h : ¬ (c.toNat : Int) < 32 ∧ ¬ 126 < (c.toNat : Int)) : vlc c = true := by
  unfold vlc
  simp
  omega
theorem nmc_no {c : UInt8} (h : ¬ (97 ≤ (c.toNat : Int) ∧ (c.toNat : Int) ≤ 122) ∧ ¬ (48 ≤ (c.toNat : Int) ∧ (c.toNat : Int) ≤ 57) ∧ (c.toNat : Int) ≠ 95) : nmc c = false := by
  unfold nmc low
  simp
  omega
theorem nmc_ok {c : UInt8} (h : (97 ≤ (c.toNat : Int) ∧ (c.toNat : Int) ≤ 122) ∨ (48 ≤ (c.toNat : Int) ∧ (c.toNat : Int) ≤ 57) ∨ (c.toNat : Int) = 95) : nmc c = true := by
  unfold nmc low
  simp
  omega
set_option maxHeartbeats 1000000 in
theorem plain_any (s : Tx) (hs : s.length ≤ 9223372036854775807) (w : World) : Calls Tryz.prog 59 #[str s] w fun e w' => e = .returned (.bool (s.all vlc)) ∧ w' = w := by
  unfold str
  go_enter Tryz.func59, Tryz.ntmps59
  go_wp2
  go_loop [3] (fun iv => ∃ j : Nat, j ≤ s.length ∧ iv = .int .i64 j ∧ Hid (∀ i, i < j → vlc (s.getD i 0) = true)) (fun iv => s.length - (intOf iv).toNat)
  case atStart => exact ⟨0, by omega, rfl, fun i hi => by omega⟩
  case round =>
    obtain ⟨j, hj, rfl, hp⟩ := hrel
    by_cases hlt : j < s.length
    · have hlt' : (j : Int) < (s.length : Int) := by omega
      have hget := get_at hlt
      obtain ⟨c, hcd⟩ : ∃ c, c = s.getD j 0 := ⟨_, rfl⟩
      rw [← hcd] at hget
      have hcm : c ∈ s := by rw [hcd]; simp [List.getD, List.getElem?_eq_getElem hlt]
      have hbad : vlc c = false → Hid (false = s.all vlc) := fun hf => by
        unfold Hid
        rw [List.all_eq_false.2 ⟨c, hcm, by rw [hf]; simp⟩]
      have hgood : vlc c = true → Hid (∀ i, i < j + 1 → vlc (s.getD i 0) = true) := fun hf i hi => by
        by_cases h : i = j
        · subst h; rw [← hcd]; exact hf
        · exact hp.out i (by omega)
      replace hbad := hid hbad
      replace hgood := hid hgood
      clear hp hcd hcm
      go_wp2
      all_goals first
        | (have e := hbad.out (vlc_no (by omega))
           go_ret
           exact ⟨ret_bool e.out, rfl⟩)
        | (have e := hgood.out (vlc_ok (by omega))
           exact ⟨⟨j + 1, by omega, by go_num, e⟩, by simp [intOf]; omega⟩)
    · have hlt' : ¬ (j : Int) < (s.length : Int) := by omega
      obtain rfl : j = s.length := by omega
      have e : Hid (true = s.all vlc) := by
        unfold Hid
        symm
        rw [List.all_eq_true]
        intro c hc
        obtain ⟨i, hi⟩ := List.mem_iff_getElem?.1 hc
        have := hp.out i (List.getElem?_eq_some_iff.1 hi).1
        simpa [List.getD, hi] using this
      clear hp
      go_wp2
      go_ret
      exact ⟨ret_bool e.out, rfl⟩
theorem mayN_false {s : Tx} (h : mayB 16 nmc s = false ∨ low (s.headD 0) = false) : Hid (false = mayN s) := by
  unfold Hid mayN
  rcases h with h | h
  · rw [h]; rfl
  · rw [h]; simp
set_option maxHeartbeats 1000000 in
theorem rmayName_any (s : Tx) (hs : s.length ≤ 9223372036854775807) (w : World) : Calls Tryz.prog 106 #[str s] w fun e w' => e = .returned (.bool (mayN s)) ∧ w' = w := by
  unfold str
  by_cases h0 : s.length = 0
  · obtain rfl := List.eq_nil_of_length_eq_zero h0
    go_enter Tryz.func106, Tryz.ntmps106
    go_wp2
    go_ret
    exact ⟨rfl, rfl⟩
  have d1 : decide ((s.length : Int) < 1) = false := by simp; omega
  by_cases h16 : 16 < s.length
  · have d2 : decide (16 < (s.length : Int)) = true := by simp; omega
    have d2' : decide (16 < s.length) = true := by simp; omega
    have e : Hid (false = mayN s) := mayN_false (.inl (by unfold mayB; rw [decide_eq_false (by omega : ¬ s.length ≤ 16)]; simp))
    clear h0
    go_enter Tryz.func106, Tryz.ntmps106
    go_wp2
    go_ret
    exact ⟨ret_bool e.out, rfl⟩
  have d2 : decide (16 < (s.length : Int)) = false := by simp; omega
  have d2' : decide (16 < s.length) = false := by simp; omega
  have hget := get_at (s := s) (j := 0) (by omega)
  obtain ⟨c, hcd⟩ : ∃ c, c = s.getD 0 0 := ⟨_, rfl⟩
  rw [← hcd] at hget
  have hh : s.headD 0 = c := by
    rw [hcd]
    cases s <;> simp
  have hl0 : (0 : Int) < (s.length : Int) := by omega
  have hl0' : 0 < s.length := by omega
  cases hlo : low c
  · have e : Hid (false = mayN s) := mayN_false (.inr (by rw [hh]; exact hlo))
    have hcc : c.toNat < 97 ∨ 122 < c.toNat := by
      unfold low at hlo
      simp at hlo
      omega
    clear hh hlo hcd
    rcases hcc with h | h
    · have h' : decide ((c.toNat : Int) < 97) = true := by simp; omega
      clear h
      go_enter Tryz.func106, Tryz.ntmps106
      go_wp2
      go_ret
      exact ⟨ret_bool e.out, rfl⟩
    · have h' : decide (122 < (c.toNat : Int)) = true := by simp; omega
      have h'' : decide ((c.toNat : Int) < 97) = false := by simp; omega
      clear h
      go_enter Tryz.func106, Tryz.ntmps106
      go_wp2
      go_ret
      exact ⟨ret_bool e.out, rfl⟩
  have d3 : decide ((c.toNat : Int) < 97) = false := by
    unfold low at hlo
    simp at hlo ⊢
    omega
  have d4 : decide (122 < (c.toNat : Int)) = false := by
    unfold low at hlo
    simp at hlo ⊢
    omega
  have hm : Hid (mayB 16 nmc s = mayN s) := by unfold Hid mayN; rw [hh, hlo]; simp
  have hne : Hid (s ≠ [] ∧ s.length ≤ 16) := ⟨by rintro rfl; simp at h0, by omega⟩
  clear hlo hh hcd
  go_enter Tryz.func106, Tryz.ntmps106
  go_wp2
  go_loop [3] (fun iv => ∃ j : Nat, j ≤ s.length ∧ iv = .int .i64 j ∧ Hid (∀ i, i < j → nmc (s.getD i 0) = true)) (fun iv => s.length - (intOf iv).toNat)
  case atStart => exact ⟨0, by omega, rfl, fun i hi => by omega⟩
  case round =>
    obtain ⟨j, hj, rfl, hp⟩ := hrel
    by_cases hlt : j < s.length
    · have hlt' : (j : Int) < (s.length : Int) := by omega
      clear hget
      have hget := get_at hlt
      obtain ⟨x, hcd⟩ : ∃ c, c = s.getD j 0 := ⟨_, rfl⟩
      rw [← hcd] at hget
      have hcm : x ∈ s := by rw [hcd]; simp [List.getD, List.getElem?_eq_getElem hlt]
      have hbad : nmc x = false → Hid (false = mayN s) := fun hf => by
        unfold Hid
        rw [← hm.out]
        unfold mayB
        rw [List.all_eq_false.2 ⟨x, hcm, by rw [hf]; simp⟩]
        simp
      have hgood : nmc x = true → Hid (∀ i, i < j + 1 → nmc (s.getD i 0) = true) := fun hf i hi => by
        by_cases h : i = j
        · subst h; rw [← hcd]; exact hf
        · exact hp.out i (by omega)
      replace hbad := hid hbad
      replace hgood := hid hgood
      clear hp hcd hcm
      go_wp2
      all_goals (try simp only [Bool.not_eq_true', Bool.not_eq_false', decide_eq_false_iff_not, decide_eq_true_iff, beq_iff_eq, beq_eq_false_iff_ne, ne_eq] at *)
      all_goals first
        | (have e := hbad.out (nmc_no (by omega))
           go_ret
           exact ⟨ret_bool e.out, rfl⟩)
        | (have e := hgood.out (nmc_ok (by omega))
           exact ⟨⟨j + 1, by omega, by go_num, e⟩, by simp [intOf]; omega⟩)
    · have hlt' : ¬ (j : Int) < (s.length : Int) := by omega
      obtain rfl : j = s.length := by omega
      have e : Hid (true = mayN s) := by
        unfold Hid
        rw [← hm.out]
        symm
        rw [mayB_iff]
        refine ⟨hne.out.1, hne.out.2, fun c hc => ?_⟩
        obtain ⟨i, hi⟩ := List.mem_iff_getElem?.1 hc
        have := hp.out i (List.getElem?_eq_some_iff.1 hi).1
        simpa [List.getD, hi] using this
      clear hp
      go_wp2
      go_ret
      exact ⟨ret_bool e.out, rfl⟩
/-- a value in quotes, and how many bytes that has. -/
def quotedV (s : Tx) : Option (Tx × Tx) → Value
  | none => .tuple #[str [], .int .i64 0]
  | some (v, r) => .tuple #[str v, .int .i64 ((s.length - r.length : Nat) : Int)]
set_option maxHeartbeats 4000000 in
theorem quoted_any (s : Tx) (w : World) (hs : s.length ≤ 35184372088832) : Calls Tryz.prog 58 #[str s] w fun e w' => e = .returned (quotedV s (takeV s)) ∧ w' = w := by
  by_cases hl0 : s.length = 0
  · obtain rfl := List.eq_nil_of_length_eq_zero hl0
    unfold takeV quotedV str
    go_enter Tryz.func58, Tryz.ntmps58
    go_wp2
    go_ret2
    exact ⟨rfl, rfl⟩
  have hl1 : 0 < s.length := by omega
  have hl1' : (0 : Int) < (s.length : Int) := by omega
  have he : s.isEmpty = false := by cases s <;> simp_all
  have hget0 := get_at hl1
  have hdr0 := drop_at hl1
  obtain ⟨c0, hc00⟩ : ∃ c, c = s.getD 0 0 := ⟨_, rfl⟩
  rw [← hc00] at hget0 hdr0
  rw [List.drop_zero, Nat.zero_add] at hdr0
  clear hc00
  by_cases h0 : c0.toNat = 34
  · have hc0 : c0 = 34 := UInt8.toNat_inj.1 h0
    have t0 : ((c0.toNat : Int) == 34) = true := by simp; omega
    have t0' : ((c0.toNat : Int) != 34) = false := by simp; omega
    have hR0 : takeV s = unq [] (s.drop 1) := by
      rw [hdr0, takeV, if_pos hc0]; rfl
    rw [hR0]
    clear hR0 h0 hc0 hdr0 hl0
    generalize hR : quotedV s (unq [] (s.drop 1)) = R
    replace hR := hid hR
    unfold str
    go_enter Tryz.func58, Tryz.ntmps58
    go_wp2
    go_loop [4, 5] (fun vv iv => ∃ (i : Nat) (acc : Tx), i ≤ s.length ∧ acc.length ≤ i ∧ iv = .int .i64 (i : Int) ∧ vv = .string ⟨acc.toArray⟩ ∧ Hid (quotedV s (unq acc (s.drop i)) = R)) (fun _ iv => s.length - (intOf iv).toNat)
    case atStart => exact ⟨1, [], hl1, by simp, rfl, rfl, hR⟩
    case round =>
      obtain ⟨i, acc, hi, hal, rfl, rfl, hu⟩ := hrel
      clear hR
      by_cases hlt : i < s.length
      · have hlt' : (i : Int) < (s.length : Int) := by omega
        have hget := get_at hlt
        obtain ⟨c, hcd⟩ : ∃ c, c = s.getD i 0 := ⟨_, rfl⟩
        have hone := ext_one hlt
        rw [← hcd] at hget hone
        have hdr := drop_at hlt
        rw [← hcd] at hdr
        clear hcd
        have c5 : IntKind.i64.wrap ((i : Int) + 1) = (i : Int) + 1 := by rw [IntKind.wrap_i64]; omega
        by_cases h34 : c.toNat = 34
        · have t1 : ((c.toNat : Int) == 34) = true := by simp; omega
          have hc : c = 34 := UInt8.toNat_inj.1 h34
          have hR : Hid (Value.tuple #[.string ⟨acc.toArray⟩, .int .i64 ((i : Int) + 1)] = R) := by
            unfold Hid
            rw [← hu.out, hdr, hc, unq_q]
            have : ((s.length - (s.drop (i + 1)).length : Nat) : Int) = (i : Int) + 1 := by simp; omega
            show _ = Value.tuple #[.string ⟨acc.toArray⟩, .int .i64 ((s.length - (s.drop (i + 1)).length : Nat) : Int)]
            rw [this]
          clear h34 hu hdr hc
          go_wp2
          go_ret2
          exact ⟨congrArg Ending.returned hR.out, rfl⟩
        have t1 : ((c.toNat : Int) == 34) = false := by simp; omega
        have h34' : c ≠ 34 := by rintro rfl; exact h34 rfl
        have hk1 : (9223372036854775807 < acc.length + 1) = False := eq_false (by omega)
        by_cases h92 : c.toNat = 92
        · have t2 : ((c.toNat : Int) == 92) = true := by simp; omega
          have hc : c = 92 := UInt8.toNat_inj.1 h92
          by_cases hend : i + 1 = s.length
          · have hR : Hid (Value.tuple #[.string ⟨#[]⟩, .int .i64 0] = R) := by
              unfold Hid
              rw [← hu.out, hdr, hc, List.drop_eq_nil_of_le (by omega), unq_b0]
              rfl
            have t3 : ((i : Int) + 1 == (s.length : Int)) = true := by simp; omega
            clear hu hdr hc h92 h34 h34' hend
            go_wp2
            go_ret2
            exact ⟨congrArg Ending.returned hR.out, rfl⟩
          · have t3 : ((i : Int) + 1 == (s.length : Int)) = false := by simp; omega
            have hlt2 : i + 1 < s.length := by omega
            have hlt2' : (i : Int) + 1 < (s.length : Int) := by omega
            have hget2 := get_at hlt2
            have hone2 := ext_one hlt2
            obtain ⟨d, hdd⟩ : ∃ d, d = s.getD (i + 1) 0 := ⟨_, rfl⟩
            rw [← hdd] at hget2 hone2
            have hdr2 := drop_at hlt2
            rw [← hdd] at hdr2
            clear hdd
            have c6 : IntKind.i64.wrap ((i : Int) + 1 + 1) = (i : Int) + 1 + 1 := by rw [IntKind.wrap_i64]; omega
            by_cases hd : d.toNat = 34 ∨ d.toNat = 92
            · have hsd : spc d = true := by
                unfold spc
                rcases hd with h | h <;> simp [h]
              have hu' : Hid (quotedV s (unq (acc ++ [d]) (s.drop (i + 1 + 1))) = R) := by
                unfold Hid
                rw [← hu.out, hdr, hc, hdr2, unq_b _ _ hsd]
              have hnew : Hid (Value.string (⟨acc.toArray⟩ ++ (⟨s.toArray⟩ : ByteArray).extract (i + 1) (i + 1 + 1)) = .string ⟨(acc ++ [d]).toArray⟩) := by
                unfold Hid
                rw [hone2, app_str]
              have hal3 : (acc ++ [d]).length ≤ i + 1 + 1 := by simp; omega
              clear hu hdr hdr2 hc h92 h34 h34' hend hone hone2 hsd
              rcases hd with h | h
              · have u1 : ((d.toNat : Int) == 34) = true := by simp; omega
                have u2 : ((d.toNat : Int) == 92) = false := by simp; omega
                have u3 : ((d.toNat : Int) != 34) = false := by simp; omega
                clear h
                go_wp2
                exact ⟨⟨i + 1 + 1, acc ++ [d], by omega, hal3, by go_num, hnew.out, hu'⟩, by simp [intOf]; omega⟩
              · have u1 : ((d.toNat : Int) == 34) = false := by simp; omega
                have u2 : ((d.toNat : Int) == 92) = true := by simp; omega
                have u3 : ((d.toNat : Int) != 34) = true := by simp; omega
                have u4 : ((d.toNat : Int) != 92) = false := by simp; omega
                clear h
                go_wp2
                exact ⟨⟨i + 1 + 1, acc ++ [d], by omega, hal3, by go_num, hnew.out, hu'⟩, by simp [intOf]; omega⟩
            · have hsd : spc d = false := by
                unfold spc
                simp
                omega
              have u1 : ((d.toNat : Int) == 34) = false := by simp; omega
              have u2 : ((d.toNat : Int) == 92) = false := by simp; omega
              have u3 : ((d.toNat : Int) != 34) = true := by simp; omega
              have u4 : ((d.toNat : Int) != 92) = true := by simp; omega
              have hR : Hid (Value.tuple #[.string ⟨#[]⟩, .int .i64 0] = R) := by
                unfold Hid
                rw [← hu.out, hdr, hc, hdr2, unq_bad _ _ hsd]
                rfl
              clear hu hdr hdr2 hc h92 h34 h34' hend hd hsd
              go_wp2
              go_ret2
              exact ⟨congrArg Ending.returned hR.out, rfl⟩
        · have t2 : ((c.toNat : Int) == 92) = false := by simp; omega
          have h92' : c ≠ 92 := by rintro rfl; exact h92 rfl
          have hu' : Hid (quotedV s (unq (acc ++ [c]) (s.drop (i + 1))) = R) := by
            unfold Hid
            rw [← hu.out, hdr, unq_c _ _ h34' h92']
          have hnew : Hid (Value.string (⟨acc.toArray⟩ ++ (⟨s.toArray⟩ : ByteArray).extract i (i + 1)) = .string ⟨(acc ++ [c]).toArray⟩) := by
            unfold Hid
            rw [hone, app_str]
          have hal3 : (acc ++ [c]).length ≤ i + 1 := by simp; omega
          clear hu hdr h92 h92' h34 h34' hone
          go_wp2
          exact ⟨⟨i + 1, acc ++ [c], by omega, hal3, by go_num, hnew.out, hu'⟩, by simp [intOf]; omega⟩
      · have hlt' : ¬ (i : Int) < (s.length : Int) := by omega
        have hR : Hid (Value.tuple #[.string ⟨#[]⟩, .int .i64 0] = R) := by
          unfold Hid
          rw [← hu.out, List.drop_eq_nil_of_le (by omega), unq_nil]
          rfl
        clear hu
        go_wp2
        go_ret2
        exact ⟨congrArg Ending.returned hR.out, rfl⟩
  · have t0 : ((c0.toNat : Int) == 34) = false := by simp; omega
    have t0' : ((c0.toNat : Int) != 34) = true := by simp; omega
    have hR0 : takeV s = none := by
      rw [hdr0, takeV, if_neg (fun e => h0 (by rw [e]; rfl))]
    rw [hR0]
    unfold quotedV str
    clear hR0 h0 hdr0 hl0
    go_enter Tryz.func58, Tryz.ntmps58
    go_wp2
    go_ret2
    exact ⟨rfl, rfl⟩
theorem blank_any (c : UInt8) (w : World) : Calls Tryz.prog 38 #[.int .u8 (c.toNat : Int)] w fun e w' => e = .returned (.bool (blk c)) ∧ w' = w := by
  by_cases h32 : c.toNat = 32
  · have e : Hid (true = blk c) := by unfold Hid blk; simp [h32]
    have t32 : ((c.toNat : Int) == 32) = true := by simp; omega
    clear h32
    go_enter Tryz.func38, Tryz.ntmps38
    go_wp2
    go_ret
    exact ⟨ret_bool e.out, rfl⟩
  have t32 : ((c.toNat : Int) == 32) = false := by simp; omega
  by_cases h9 : c.toNat = 9
  · have e : Hid (true = blk c) := by unfold Hid blk; simp [h9]
    have t9 : ((c.toNat : Int) == 9) = true := by simp; omega
    clear h9
    go_enter Tryz.func38, Tryz.ntmps38
    go_wp2
    go_ret
    exact ⟨ret_bool e.out, rfl⟩
  have t9 : ((c.toNat : Int) == 9) = false := by simp; omega
  by_cases h10 : c.toNat = 10
  · have e : Hid (true = blk c) := by unfold Hid blk; simp [h10]
    have t10 : ((c.toNat : Int) == 10) = true := by simp; omega
    clear h10
    go_enter Tryz.func38, Tryz.ntmps38
    go_wp2
    go_ret
    exact ⟨ret_bool e.out, rfl⟩
  have t10 : ((c.toNat : Int) == 10) = false := by simp; omega
  by_cases h13 : c.toNat = 13
  · have e : Hid (true = blk c) := by unfold Hid blk; simp [h13]
    have t13 : ((c.toNat : Int) == 13) = true := by simp; omega
    clear h13
    go_enter Tryz.func38, Tryz.ntmps38
    go_wp2
    go_ret
    exact ⟨ret_bool e.out, rfl⟩
  have t13 : ((c.toNat : Int) == 13) = false := by simp; omega
  have e : Hid (false = blk c) := by unfold Hid blk; simp [h32, h9, h10, h13]
  clear h32 h9 h10 h13
  go_enter Tryz.func38, Tryz.ntmps38
  go_wp2
  go_ret
  exact ⟨ret_bool e.out, rfl⟩
theorem ne_beq {s : Tx} (h : s ≠ []) : s.isEmpty = false := by cases s <;> simp_all
set_option maxHeartbeats 1000000 in
theorem digits_any (s : Tx) (hs : s.length ≤ 9223372036854775806) (w : World) : Calls Tryz.prog 107 #[str s] w fun e w' => e = .returned (.bool (digsR s)) ∧ w' = w := by
  unfold str
  go_enter Tryz.func107, Tryz.ntmps107
  go_wp2
  go_loop [3] (fun iv => ∃ j : Nat, j ≤ s.length ∧ iv = .int .i64 j ∧ Hid (∀ i, i < j → dig (s.getD i 0) = true)) (fun iv => s.length - (intOf iv).toNat)
  case atStart => exact ⟨0, by omega, rfl, fun i hi => by omega⟩
  case round =>
    obtain ⟨j, hj, rfl, hp⟩ := hrel
    by_cases hlt : j < s.length
    · have hlt' : (j : Int) < (s.length : Int) := by omega
      have hget := get_at hlt
      obtain ⟨c, hcd⟩ : ∃ c, c = s.getD j 0 := ⟨_, rfl⟩
      rw [← hcd] at hget
      have hcm : c ∈ s := by rw [hcd]; simp [List.getD, List.getElem?_eq_getElem hlt]
      by_cases hd : 48 ≤ c.toNat ∧ c.toNat ≤ 57
      · have hp' : Hid (∀ i, i < j + 1 → dig (s.getD i 0) = true) := fun i hi => by
          by_cases h : i = j
          · subst h; rw [← hcd]; unfold dig; simp [hd.1, hd.2]
          · exact hp.out i (by omega)
        have t1 : ¬ (c.toNat : Int) < 48 := by omega
        have t2 : ¬ (57 : Int) < (c.toNat : Int) := by omega
        clear hp hcd hcm hd
        go_wp2
        exact ⟨⟨j + 1, by omega, by go_num, hp'⟩, by simp [intOf]; omega⟩
      · have e : Hid (false = digsR s) := by
          unfold Hid digsR
          rw [List.all_eq_false.2 ⟨c, hcm, by unfold dig; simp; omega⟩]
          simp
        clear hp hcd hcm
        by_cases h1 : c.toNat < 48
        · have t1 : (c.toNat : Int) < 48 := by omega
          clear h1 hd
          go_wp2
          go_ret
          exact ⟨ret_bool e.out, rfl⟩
        · have t1 : ¬ (c.toNat : Int) < 48 := by omega
          have t2 : (57 : Int) < (c.toNat : Int) := by omega
          clear h1 hd
          go_wp2
          go_ret
          exact ⟨ret_bool e.out, rfl⟩
    · have hlt' : ¬ (j : Int) < (s.length : Int) := by omega
      obtain rfl : j = s.length := by omega
      have hall : s.all dig = true := by
        rw [List.all_eq_true]
        intro c hc
        obtain ⟨i, hi⟩ := List.mem_iff_getElem?.1 hc
        have := hp.out i (List.getElem?_eq_some_iff.1 hi).1
        simpa [List.getD, hi] using this
      by_cases h0 : s = []
      · subst h0
        clear hp hall
        go_wp2
        go_ret
        exact ⟨rfl, rfl⟩
      · have e : Hid (true = digsR s) := by unfold Hid digsR; rw [hall, ne_beq h0]; rfl
        have hemp := ne_beq h0
        clear hp hall h0
        go_wp2
        go_ret
        exact ⟨ret_bool e.out, rfl⟩
set_option maxHeartbeats 1000000 in
theorem rnumber_any (s : Tx) (hs : s.length ≤ 9223372036854775800) (w : World) : Calls Tryz.prog 83 #[str s] w fun e w' => e = .returned (.bool (numB s)) ∧ w' = w := by
  have hall := hid (digits_any s (by omega))
  have hpt := hid (fun (x : Tx) (hx : x.length ≤ s.length) => digits_any x (by omega))
  unfold str at *
  go_enter Tryz.func83, Tryz.ntmps83
  go_wp2
  go_loop [3] (fun iv => ∃ j : Nat, j ≤ s.length ∧ iv = .int .i64 j ∧ Hid (∀ i, i < j → nd (s.getD i 0) = true)) (fun iv => s.length - (intOf iv).toNat)
  case atStart => exact ⟨0, by omega, rfl, fun i hi => by omega⟩
  case round =>
    obtain ⟨j, hj, rfl, hp⟩ := hrel
    by_cases hlt : j < s.length
    · have hlt' : (j : Int) < (s.length : Int) := by omega
      have hget := get_at hlt
      obtain ⟨c, hcd⟩ : ∃ c, c = s.getD j 0 := ⟨_, rfl⟩
      rw [← hcd] at hget
      by_cases h46 : c.toNat = 46
      · have t1 : ((c.toNat : Int) == 46) = true := by simp; omega
        have hn : cnt nd s = j := cnt_eq s j hj hp.out (fun _ => by rw [← hcd]; unfold nd; simp [h46])
        have e : Hid (numB s = (digsR (s.take j) && digsR (s.drop (j + 1)))) := by
          unfold Hid numB
          rw [hn, if_neg (by omega)]
        have e1 := ext_to s j
        have e2 := ext_from s (j + 1) s.length rfl
        have h1 := hid (hpt.out (s.take j) (by simp; omega))
        have h2 := hid (hpt.out (s.drop (j + 1)) (by simp))
        have c3 : (0 : Int) ≤ (j : Int) := by omega
        have c4 : (j : Int) ≤ (s.length : Int) := by omega
        have c5 : IntKind.i64.wrap ((j : Int) + 1) = (j : Int) + 1 := by rw [IntKind.wrap_i64]; omega
        have c6 : (0 : Int) ≤ (j : Int) + 1 := by omega
        have c7 : (j : Int) + 1 ≤ (s.length : Int) := by omega
        clear hp hcd h46 hn hall hpt
        generalize s.take j = x at *
        generalize s.drop (j + 1) = y at *
        cases hx : digsR x
        · rw [hx] at h1 e
          have e' : Hid (false = numB s) := by unfold Hid; rw [e.out]; rfl
          clear e hx h2
          go_wp2_with (go_at_call 107; refine (h1.out _).mono ?_; rintro e w' ⟨rfl, hw'⟩; have hw2 := hw'.symm; subst hw2)
          go_ret
          exact ⟨ret_bool e'.out, rfl⟩
        · rw [hx] at h1 e
          have e' : Hid (digsR y = numB s) := by unfold Hid; rw [e.out]; rfl
          clear e hx
          generalize digsR y = q at *
          go_wp2_with (go_at_call 107; first | (refine (h1.out _).mono ?_; clear h1; rintro e w' ⟨rfl, hw'⟩; have hw2 := hw'.symm; subst hw2) | (refine (h2.out _).mono ?_; rintro e w' ⟨rfl, hw'⟩; have hw2 := hw'.symm; subst hw2))
          go_ret
          exact ⟨ret_bool e'.out, rfl⟩
      · have t1 : ((c.toNat : Int) == 46) = false := by simp; omega
        have hp' : Hid (∀ i, i < j + 1 → nd (s.getD i 0) = true) := fun i hi => by
          by_cases h : i = j
          · subst h; rw [← hcd]; unfold nd; simp [h46]
          · exact hp.out i (by omega)
        clear hp hcd h46 hall hpt
        go_wp2
        exact ⟨⟨j + 1, by omega, by go_num, hp'⟩, by simp [intOf]; omega⟩
    · have hlt' : ¬ (j : Int) < (s.length : Int) := by omega
      obtain rfl : j = s.length := by omega
      have hn : cnt nd s = s.length := cnt_eq s s.length hj hp.out (fun h => absurd h (by omega))
      have e : Hid (digsR s = numB s) := by unfold Hid numB; rw [hn, if_pos rfl]
      clear hp hn hpt
      generalize digsR s = q at *
      go_wp2_with (go_at_call 107; refine (hall.out _).mono ?_; rintro e w' ⟨rfl, hw'⟩; have hw2 := hw'.symm; subst hw2)
      go_ret
      exact ⟨ret_bool e.out, rfl⟩
set_option maxHeartbeats 2000000 in
theorem rsign_any (s : Tx) (w : World) : Calls Tryz.prog 84 #[str s] w fun e w' => e = .returned (.bool (signB s)) ∧ Below w.heap.size w w' := by
  unfold str
  go_enter Tryz.func84, Tryz.ntmps84
  go_wp2
  obtain ⟨V, hV⟩ : ∃ V, w.alloc (.cells (signs.map str).toArray 9) = V := ⟨_, rfl⟩
  have hnb := new_block w (.cells (signs.map str).toArray 9)
  have hbl := alloc_below w (.cells (signs.map str).toArray 9)
  rw [hV] at hnb hbl
  have hcell : Hid (∀ j, j < 18 → V.cell? ⟨w.heap.size, j, none⟩ = some (.string ⟨(signs.getD j []).toArray⟩)) := fun j hj => by
    have hl : signs.length = 18 := rfl
    rw [cell_of hnb]
    simp [List.getD, List.getElem?_eq_getElem (show j < signs.length by omega), str]
  replace hV : w.alloc (.cells #[.string ⟨#[60, 61]⟩, .string ⟨#[62, 61]⟩, .string ⟨#[61, 61]⟩, .string ⟨#[33, 61]⟩, .string ⟨#[94, 61]⟩, .string ⟨#[123]⟩, .string ⟨#[125]⟩, .string ⟨#[40]⟩, .string ⟨#[41]⟩, .string ⟨#[91]⟩, .string ⟨#[93]⟩, .string ⟨#[44]⟩, .string ⟨#[58]⟩, .string ⟨#[59]⟩, .string ⟨#[61]⟩, .string ⟨#[60]⟩, .string ⟨#[62]⟩, .string ⟨#[45]⟩] 9) = V := hV
  rw [hV]
  replace hbl := hid hbl
  clear hV hnb
  go_loop [4] (fun iv => ∃ j : Nat, j ≤ 18 ∧ iv = .int .i64 j ∧ Hid (∀ i, i < j → signs.getD i [] ≠ s)) (fun iv => 18 - (intOf iv).toNat)
  case atStart => exact ⟨0, by omega, rfl, fun i hi => by omega⟩
  case round =>
    obtain ⟨j, hj, rfl, hp⟩ := hrel
    by_cases hlt : j < 18
    · have hlt' : (j : Int) < 18 := by omega
      have hc := hcell.out j hlt
      have hl : signs.length = 18 := rfl
      have hmem : signs.getD j [] ∈ signs := by
        rw [show signs.getD j [] = signs[j]'(by omega) by simp [List.getD, List.getElem?_eq_getElem (show j < signs.length by omega)]]
        exact List.getElem_mem _
      generalize hx : signs.getD j [] = x at *
      by_cases he : x = s
      · have t1 : (x == s) = true := by simpa using he
        have e : Hid (true = signB s) := by
          unfold Hid signB
          rw [← he]
          symm
          rw [List.contains_iff_mem]
          exact hmem
        clear hp hcell hx hmem he hl
        go_wp2
        go_ret
        exact ⟨ret_bool e.out, hbl.out⟩
      · have t1 : (x == s) = false := by simpa using he
        have hp' : Hid (∀ i, i < j + 1 → signs.getD i [] ≠ s) := fun i hi => by
          by_cases h : i = j
          · subst h; rw [hx]; exact he
          · exact hp.out i (by omega)
        clear hp hx hmem he hl
        go_wp2
        exact ⟨⟨j + 1, by omega, by go_num, hp'⟩, by simp [intOf]; omega⟩
    · have hlt' : ¬ (j : Int) < 18 := by omega
      obtain rfl : j = 18 := by omega
      have e : Hid (false = signB s) := by
        unfold Hid
        symm
        unfold signB
        cases hb : signs.contains s
        · rfl
        · exfalso
          rw [List.contains_iff_mem] at hb
          obtain ⟨i, hi⟩ := List.mem_iff_getElem?.1 hb
          have hl : signs.length = 18 := rfl
          have hi2 := (List.getElem?_eq_some_iff.1 hi).1
          exact hp.out i (by omega) (by simp [List.getD, hi])
      clear hp hcell
      go_wp2
      go_ret
      exact ⟨ret_bool e.out, hbl.out⟩
end Go.Proofs.YtjhodmpgggaknaaGreatDoor
/- Contracts of the document's own word, kind. -/
namespace Go.Proofs.YtjhodmpgggaknaaGreatDoor
open Go.RowKit Go.Shelf

theorem part_of (s : Tx) (b g : Nat) : (s.take (b + g)).drop b = (s.drop b).take g := by
  rw [List.drop_take, Nat.add_sub_cancel_left]
theorem mayN_two (c : UInt8) : mayN [97, c] = nmc c := by
  unfold mayN mayB
  have h : nmc 97 = true := by decide
  have h2 : low 97 = true := by decide
  simp [h, h2]
set_option maxHeartbeats 1000000 in
theorem word_any (s : Tx) (hs : s.length ≤ 9223372036854775800) (w : World) : Calls Tryz.prog 82 #[str s] w fun e w' => e = .returned (.bool (wordB s)) ∧ w' = w := by
  have hmn := hid (fun (c : UInt8) => rmayName_any [97, c] (by simp))
  unfold str at *
  go_enter Tryz.func82, Tryz.ntmps82
  go_wp2
  go_loop [3] (fun iv => ∃ j : Nat, j ≤ s.length ∧ iv = .int .i64 j ∧ Hid (∀ i, i < j → nmc (s.getD i 0) = true)) (fun iv => s.length - (intOf iv).toNat)
  case atStart => exact ⟨0, by omega, rfl, fun i hi => by omega⟩
  case round =>
    obtain ⟨j, hj, rfl, hp⟩ := hrel
    by_cases hlt : j < s.length
    · have hlt' : (j : Int) < (s.length : Int) := by omega
      have hone := ext_one hlt
      obtain ⟨c, hcd⟩ : ∃ c, c = s.getD j 0 := ⟨_, rfl⟩
      rw [← hcd] at hone
      have hcm : c ∈ s := by rw [hcd]; simp [List.getD, List.getElem?_eq_getElem hlt]
      have hcat : (⟨#[97]⟩ : ByteArray) ++ ⟨([c] : Tx).toArray⟩ = ⟨([97, c] : Tx).toArray⟩ := app_str [97] [c]
      have c5 : IntKind.i64.wrap ((j : Int) + 1) = (j : Int) + 1 := by rw [IntKind.wrap_i64]; omega
      have c3 : (0 : Int) ≤ (j : Int) := by omega
      have c4 : (j : Int) ≤ (j : Int) + 1 := by omega
      have c6 : (j : Int) + 1 ≤ (s.length : Int) := by omega
      have hm := hid (hmn.out c)
      rw [mayN_two] at hm
      cases hf : nmc c
      · have e : Hid (false = wordB s) := by
          unfold Hid wordB
          rw [List.all_eq_false.2 ⟨c, hcm, by rw [hf]; simp⟩]
          simp
        rw [hf] at hm
        clear hp hcd hcm hf
        go_wp2_with (go_at_call 106; refine (hm.out _).mono ?_; rintro e w' ⟨rfl, hw'⟩; have hw2 := hw'.symm; subst hw2)
        go_ret
        exact ⟨ret_bool e.out, rfl⟩
      · have hp' : Hid (∀ i, i < j + 1 → nmc (s.getD i 0) = true) := fun i hi => by
          by_cases h : i = j
          · subst h; rw [← hcd]; exact hf
          · exact hp.out i (by omega)
        rw [hf] at hm
        clear hp hcd hcm hf
        go_wp2_with (go_at_call 106; refine (hm.out _).mono ?_; rintro e w' ⟨rfl, hw'⟩; have hw2 := hw'.symm; subst hw2)
        exact ⟨⟨j + 1, by omega, by go_num, hp'⟩, by simp [intOf]; omega⟩
    · have hlt' : ¬ (j : Int) < (s.length : Int) := by omega
      obtain rfl : j = s.length := by omega
      have hall : s.all nmc = true := by
        rw [List.all_eq_true]
        intro c hc
        obtain ⟨i, hi⟩ := List.mem_iff_getElem?.1 hc
        have := hp.out i (List.getElem?_eq_some_iff.1 hi).1
        simpa [List.getD, hi] using this
      by_cases h0 : s = []
      · subst h0
        clear hp hall hmn
        go_wp2
        go_ret
        exact ⟨rfl, rfl⟩
      · have hemp := ne_beq h0
        have hl0 : 0 < s.length := by cases s <;> simp_all
        have hl0' : (0 : Int) < (s.length : Int) := by omega
        have hget := get_at hl0
        have e : Hid (wordB s = low (s.getD 0 0)) := by
          unfold Hid wordB
          rw [hall, hemp]
          cases s <;> simp_all
        obtain ⟨c, hcd⟩ : ∃ c, c = s.getD 0 0 := ⟨_, rfl⟩
        rw [← hcd] at hget e
        clear hp hall h0 hcd hmn
        by_cases h1 : 97 ≤ c.toNat
        · have h1' : (97 : Int) ≤ (c.toNat : Int) := by omega
          by_cases h2 : c.toNat ≤ 122
          · have h2' : (c.toNat : Int) ≤ 122 := by omega
            have e' : Hid (true = wordB s) := by unfold Hid; rw [e.out]; unfold low; simp [h1, h2]
            clear e h1 h2
            go_wp2
            go_ret
            exact ⟨ret_bool e'.out, rfl⟩
          · have h2' : ¬ (c.toNat : Int) ≤ 122 := by omega
            have e' : Hid (false = wordB s) := by unfold Hid; rw [e.out]; unfold low; simp; omega
            clear e h1 h2
            go_wp2
            go_ret
            exact ⟨ret_bool e'.out, rfl⟩
        · have h1' : ¬ (97 : Int) ≤ (c.toNat : Int) := by omega
          have e' : Hid (false = wordB s) := by unfold Hid; rw [e.out]; unfold low; simp; omega
          clear e h1
          go_wp2
          go_ret
          exact ⟨ret_bool e'.out, rfl⟩
def kindV (r : Nat × Tx) : Value := .tuple #[.int .u8 (r.1 : Int), .string ⟨r.2.toArray⟩]
set_option maxHeartbeats 1000000 in
theorem kind_any (s : Tx) (hs : s.length ≤ 9223372036854775800) (w : World) : Calls Tryz.prog 60 #[str s] w fun e w' => e = .returned (kindV (kindP s)) ∧ Below w.heap.size w w' := by
  have h1 := hid (word_any s hs)
  have h2 := hid (rnumber_any s hs)
  have h3 := hid (rsign_any s)
  unfold str kindP at *
  cases hw : wordB s
  · rw [hw] at h1
    cases hn : numB s
    · rw [hn] at h2
      cases hg : signB s
      · rw [hg] at h3
        clear hw hn hg
        unfold kindV
        go_enter Tryz.func60, Tryz.ntmps60
        go_wp2_with (first | (go_at_call 82; refine (h1.out _).mono ?_; rintro e w' ⟨rfl, hw'⟩; have hw2 := hw'.symm; subst hw2) | (go_at_call 83; refine (h2.out _).mono ?_; rintro e w' ⟨rfl, hw'⟩; have hw2 := hw'.symm; subst hw2) | (go_at_call 84; refine (h3.out _).mono ?_; rintro e w' ⟨rfl, hB⟩))
        go_ret2
        exact ⟨rfl, hB⟩
      · rw [hg] at h3
        clear hw hn hg
        unfold kindV
        go_enter Tryz.func60, Tryz.ntmps60
        go_wp2_with (first | (go_at_call 82; refine (h1.out _).mono ?_; rintro e w' ⟨rfl, hw'⟩; have hw2 := hw'.symm; subst hw2) | (go_at_call 83; refine (h2.out _).mono ?_; rintro e w' ⟨rfl, hw'⟩; have hw2 := hw'.symm; subst hw2) | (go_at_call 84; refine (h3.out _).mono ?_; rintro e w' ⟨rfl, hB⟩))
        go_ret2
        exact ⟨rfl, hB⟩
    · rw [hn] at h2
      clear hw hn h3
      unfold kindV
      go_enter Tryz.func60, Tryz.ntmps60
      go_wp2_with (first | (go_at_call 82; refine (h1.out _).mono ?_; rintro e w' ⟨rfl, hw'⟩; have hw2 := hw'.symm; subst hw2) | (go_at_call 83; refine (h2.out _).mono ?_; rintro e w' ⟨rfl, hw'⟩; have hw2 := hw'.symm; subst hw2))
      go_ret2
      exact ⟨rfl, Below.refl _ _⟩
  · rw [hw] at h1
    clear hw h2 h3
    unfold kindV
    go_enter Tryz.func60, Tryz.ntmps60
    go_wp2_with (go_at_call 82; refine (h1.out _).mono ?_; rintro e w' ⟨rfl, hw'⟩; have hw2 := hw'.symm; subst hw2)
    go_ret2
    exact ⟨rfl, Below.refl _ _⟩
end Go.Proofs.YtjhodmpgggaknaaGreatDoor
