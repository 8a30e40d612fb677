/- Plain mathematics of frames: numbers in bytes, the frame of a record, what a beginning is read as, rows of frames; no program is named. -/
import Derived.Test.YtffopkpbekjanaaWithP
namespace Go.Proofs.Ytffopkpbekjanaa
def Byt (zs : List Int) : Prop := ∀ z ∈ zs, 0 ≤ z ∧ z < 256
theorem Byt.app {a b : List Int} (h : Byt a) (k : Byt b) : Byt (a ++ b) := fun z hz => (List.mem_append.1 hz).elim (h z) (k z)
theorem Byt.left {a b : List Int} (h : Byt (a ++ b)) : Byt a := fun z hz => h z (List.mem_append.2 (.inl hz))
theorem Byt.right {a b : List Int} (h : Byt (a ++ b)) : Byt b := fun z hz => h z (List.mem_append.2 (.inr hz))
theorem Byt.take {a : List Int} (h : Byt a) (n : Nat) : Byt (a.take n) := fun z hz => h z (List.mem_of_mem_take hz)
theorem Byt.drop {a : List Int} (h : Byt a) (n : Nat) : Byt (a.drop n) := fun z hz => h z (List.mem_of_mem_drop hz)
/-- a number in bytes. -/
def vi (n : Nat) : List Int := if n < 128 then [(n : Int)] else ((128 + n % 128 : Nat) : Int) :: vi (n / 128)
theorem vi_lt {n : Nat} (h : n < 128) : vi n = [(n : Int)] := by rw [vi, if_pos h]
theorem vi_ge {n : Nat} (h : ¬ n < 128) : vi n = ((128 + n % 128 : Nat) : Int) :: vi (n / 128) := by rw [vi, if_neg h]
theorem vi_two {n : Nat} (h : ¬ n < 128) (h2 : n < 16384) : vi n = [((128 + n % 128 : Nat) : Int), ((n / 128 : Nat) : Int)] := by rw [vi_ge h, vi_lt (by omega)]
theorem vi_three {n : Nat} (h2 : ¬ n < 16384) (h3 : n < 2097152) : vi n = [((128 + n % 128 : Nat) : Int), ((128 + n / 128 % 128 : Nat) : Int), ((n / 16384 : Nat) : Int)] := by
  rw [vi_ge (by omega), vi_ge (by omega), vi_lt (by omega), show n / 128 / 128 = n / 16384 by omega]
theorem vi_byt : ∀ (m n : Nat), n ≤ m → Byt (vi n) := by
  intro m
  induction m with
  | zero => intro n h z hz; rw [vi_lt (by omega)] at hz; simp at hz; omega
  | succ m ih =>
    intro n h
    by_cases h1 : n < 128
    · intro z hz; rw [vi_lt h1] at hz; simp at hz; omega
    · intro z hz; rw [vi_ge h1] at hz
      rcases List.mem_cons.1 hz with rfl | hz
      · omega
      · exact ih _ (by omega) z hz
def wide (n : Nat) : Nat := if n < 128 then 1 else if n < 16384 then 2 else 3
theorem vi_len {n : Nat} (h : n < 2097152) : (vi n).length = wide n := by
  unfold wide
  by_cases h1 : n < 128
  · rw [vi_lt h1, if_pos h1]; rfl
  · by_cases h2 : n < 16384
    · rw [vi_two h1 h2, if_neg h1, if_pos h2]; rfl
    · rw [vi_three h2 h, if_neg h1, if_neg h2]; rfl
theorem wide_mono {m n : Nat} (h : m + wide m = n + wide n) : m = n := by
  unfold wide at h
  split at h <;> split at h <;> (try split at h) <;> (try split at h) <;> omega
/-- the number that bytes begin with, and how many bytes it has. -/
def lenP : List Int → Option (Nat × Nat)
  | [] => none
  | c :: b => if c < 128 then some (c.toNat, 1) else match b with
    | [] => none
    | d :: b => if d < 128 then (if d = 0 then none else some ((c - 128 + 128 * d).toNat, 2)) else match b with
      | [] => none
      | e :: _ => if e < 128 then (if e = 0 then none else some ((c - 128 + 128 * (d - 128) + 16384 * e).toNat, 3)) else none
theorem lenP_vi {n : Nat} (h : n < 2097152) (r : List Int) : lenP (vi n ++ r) = some (n, (vi n).length) := by
  by_cases h1 : n < 128
  · rw [vi_lt h1]; simp [lenP]; omega
  · by_cases h2 : n < 16384
    · rw [vi_two h1 h2]
      have a1 : ¬ ((128 + n % 128 : Nat) : Int) < 128 := by omega
      have a2 : ((n / 128 : Nat) : Int) < 128 := by omega
      have a3 : ¬ ((n / 128 : Nat) : Int) = 0 := by omega
      simp only [List.cons_append, List.nil_append, lenP, if_neg a1, if_pos a2, if_neg a3]
      simp; omega
    · rw [vi_three h2 h]
      have a1 : ¬ ((128 + n % 128 : Nat) : Int) < 128 := by omega
      have a2 : ¬ ((128 + n / 128 % 128 : Nat) : Int) < 128 := by omega
      have a3 : ((n / 16384 : Nat) : Int) < 128 := by omega
      have a4 : ¬ ((n / 16384 : Nat) : Int) = 0 := by omega
      simp only [List.cons_append, List.nil_append, lenP, if_neg a1, if_neg a2, if_pos a3, if_neg a4]
      simp; omega
theorem lenP_some {b : List Int} (hb : Byt b) {n k : Nat} (h : lenP b = some (n, k)) : n < 2097152 ∧ k = (vi n).length ∧ b = vi n ++ b.drop k := by
  match b, hb, h with
  | [], _, h => cases h
  | c :: b, hb, h =>
    have hc := hb c (by simp)
    unfold lenP at h
    dsimp only at h
    by_cases c1 : c < 128
    · rw [if_pos c1] at h; cases h
      rw [vi_lt (by omega)]
      refine ⟨by omega, rfl, ?_⟩
      simp; omega
    · rw [if_neg c1] at h
      match b, hb, h with
      | [], _, h => cases h
      | d :: b, hb, h =>
        have hd := hb d (by simp)
        dsimp only at h
        by_cases d1 : d < 128
        · rw [if_pos d1] at h
          by_cases d0 : d = 0
          · rw [if_pos d0] at h; cases h
          · rw [if_neg d0] at h; cases h
            rw [vi_two (by omega) (by omega)]
            refine ⟨by omega, rfl, ?_⟩
            simp; omega
        · rw [if_neg d1] at h
          match b, hb, h with
          | [], _, h => cases h
          | e :: b, hb, h =>
            have he := hb e (by simp)
            dsimp only at h
            by_cases e1 : e < 128
            · rw [if_pos e1] at h
              by_cases e0 : e = 0
              · rw [if_pos e0] at h; cases h
              · rw [if_neg e0] at h; cases h
                rw [vi_three (by omega) (by omega)]
                refine ⟨by omega, rfl, ?_⟩
                simp; omega
            · rw [if_neg e1] at h; cases h
/-- the frame of a record. -/
def fr (p : List Int) : List Int := vi p.length ++ p ++ four ((sum (vi p.length ++ p)).toNat : Int)
theorem four_len (n : Int) : (four n).length = 4 := rfl
theorem fr_len (p : List Int) : (fr p).length = (vi p.length).length + p.length + 4 := by simp [fr, four_len]; omega
theorem fr_pos (p : List Int) : 5 ≤ (fr p).length := by
  rw [fr_len]
  have : (vi p.length).length ≠ 0 := by
    by_cases h : p.length < 128
    · rw [vi_lt h]; simp
    · rw [vi_ge h]; simp
  omega
theorem fr_byt {p : List Int} (h : Byt p) : Byt (fr p) := ((vi_byt _ _ (Nat.le_refl _)).app h).app (four_in _)
/-- what bytes begin with: a record, and how many bytes its frame has. -/
def nextP (b : List Int) : Option (List Int × Nat) :=
  match lenP b with
  | none => none
  | some (n, k) => if 65536 < n ∨ b.length < k + n + 4 then none else if (b.drop (k + n)).take 4 = four ((sum (b.take (k + n))).toNat : Int) then some ((b.drop k).take n, k + n + 4) else none
theorem next_fr {p : List Int} (h : p.length ≤ 65536) (r : List Int) : nextP (fr p ++ r) = some (p, (fr p).length) := by
  have e : fr p ++ r = vi p.length ++ (p ++ four ((sum (vi p.length ++ p)).toNat : Int) ++ r) := by simp [fr]
  unfold nextP
  rw [e, lenP_vi (by omega)]
  have hl : ¬ (65536 < p.length ∨ (vi p.length ++ (p ++ four ((sum (vi p.length ++ p)).toNat : Int) ++ r)).length < (vi p.length).length + p.length + 4) := by simp [four_len]; omega
  have e1 : (vi p.length ++ (p ++ four ((sum (vi p.length ++ p)).toNat : Int) ++ r)).take ((vi p.length).length + p.length) = vi p.length ++ p := by
    rw [show vi p.length ++ (p ++ four ((sum (vi p.length ++ p)).toNat : Int) ++ r) = (vi p.length ++ p) ++ (four ((sum (vi p.length ++ p)).toNat : Int) ++ r) by simp]
    rw [List.take_left' (by simp)]
  have e2 : (vi p.length ++ (p ++ four ((sum (vi p.length ++ p)).toNat : Int) ++ r)).drop ((vi p.length).length + p.length) = four ((sum (vi p.length ++ p)).toNat : Int) ++ r := by
    rw [show vi p.length ++ (p ++ four ((sum (vi p.length ++ p)).toNat : Int) ++ r) = (vi p.length ++ p) ++ (four ((sum (vi p.length ++ p)).toNat : Int) ++ r) by simp]
    rw [List.drop_left' (by simp)]
  dsimp only
  rw [if_neg hl, e1, e2, List.take_left' (four_len _), if_pos rfl, fr_len, List.drop_left' rfl]
  simp
theorem next_some {b : List Int} (hb : Byt b) {p : List Int} {u : Nat} (h : nextP b = some (p, u)) : p.length ≤ 65536 ∧ u = (fr p).length ∧ b = fr p ++ b.drop u := by
  unfold nextP at h
  split at h
  · cases h
  · rename_i n k hk
    obtain ⟨h1, h2, h3⟩ := lenP_some hb hk
    split at h
    · cases h
    · rename_i hn
      split at h
      · rename_i hs
        cases h
        have hl : ((b.drop k).take n).length = n := by simp; omega
        have e1 : b.take (k + n) = vi n ++ (b.drop k).take n := by
          conv => lhs; rw [h3]
          rw [List.take_append, h2, List.take_of_length_le (by omega)]
          simp
        have e2 : fr ((b.drop k).take n) = b.take (k + n) ++ (b.drop (k + n)).take 4 := by
          unfold fr
          rw [hl, ← e1, hs]
        have e3 : (fr ((b.drop k).take n)).length = k + n + 4 := by rw [fr_len, hl, h2]
        refine ⟨by rw [hl]; omega, e3.symm, ?_⟩
        rw [e2, show b.drop (k + n + 4) = (b.drop (k + n)).drop 4 by rw [List.drop_drop], List.append_assoc, List.take_append_drop, List.take_append_drop]
      · cases h
theorem fr_inj {p q r s : List Int} (hp : p.length ≤ 65536) (hq : q.length ≤ 65536) (h : fr p ++ r = fr q ++ s) : p = q ∧ r = s := by
  have h1 := next_fr hp r
  rw [h, next_fr hq s] at h1
  cases h1
  exact ⟨rfl, by simpa using h⟩
/-- a proper beginning of a frame is none. -/
theorem torn {p : List Int} (hb : Byt p) (hp : p.length ≤ 65536) {k : Nat} (hk : k < (fr p).length) : nextP ((fr p).take k) = none := by
  cases h : nextP ((fr p).take k) with
  | none => rfl
  | some x =>
    obtain ⟨q, u⟩ := x
    obtain ⟨h1, h2, h3⟩ := next_some ((fr_byt hb).take k) h
    have h4 : fr p ++ [] = fr q ++ (((fr p).take k).drop u ++ (fr p).drop k) := by
      rw [← List.append_assoc, ← h3, List.take_append_drop, List.append_nil]
    obtain ⟨h5, h6⟩ := fr_inj hp h1 h4
    have : (fr p).length = k := by
      have h7 := congrArg List.length h6
      simp at h7
      omega
    omega
theorem next_nil : nextP [] = none := rfl
theorem next_noughts (m : Nat) : nextP (List.replicate m 0) = none := by
  cases m with
  | zero => rfl
  | succ m =>
    unfold nextP
    have : lenP (List.replicate (m + 1) 0) = some (0, 1) := by simp [List.replicate_succ, lenP]
    rw [this]
    dsimp only
    split
    · rfl
    · rename_i h
      have hm : 4 ≤ m := by simp at h; omega
      obtain ⟨j, rfl⟩ : ∃ j, m = 4 + j := ⟨m - 4, by omega⟩
      have e1 : ((List.replicate (4 + j + 1) (0 : Int)).drop (1 + 0)).take 4 = [0, 0, 0, 0] := by
        rw [show 4 + j + 1 = 1 + 0 + (4 + j) by omega, List.drop_replicate]
        rw [show 1 + 0 + (4 + j) - (1 + 0) = 4 + j by omega, List.take_replicate, show min 4 (4 + j) = 4 by omega]
        rfl
      have e2 : (List.replicate (4 + j + 1) (0 : Int)).take (1 + 0) = [0] := by
        rw [List.take_replicate, show min (1 + 0) (4 + j + 1) = 1 by omega]; rfl
      rw [e1, e2, if_neg (by decide +kernel)]
/-- frames, one behind the other. -/
def rows (l : List (List Int)) : List Int := (l.map fr).flatten
theorem rows_nil : rows [] = [] := rfl
theorem rows_cons (p : List Int) (l : List (List Int)) : rows (p :: l) = fr p ++ rows l := rfl
theorem rows_app (l m : List (List Int)) : rows (l ++ m) = rows l ++ rows m := by simp [rows]
/-- bytes are whole frames of l, and then r, which begins with none. -/
def Reads (b : List Int) (l : List (List Int)) (r : List Int) : Prop := b = rows l ++ r ∧ (∀ p ∈ l, p.length ≤ 65536) ∧ nextP r = none
theorem reads_any : ∀ (n : Nat) (b : List Int), b.length ≤ n → Byt b → ∃ l r, Reads b l r := by
  intro n
  induction n with
  | zero =>
    intro b h _
    obtain rfl : b = [] := List.eq_nil_of_length_eq_zero (by omega)
    exact ⟨[], [], rfl, by simp, rfl⟩
  | succ n ih =>
    intro b h hb
    cases hn : nextP b with
    | none => exact ⟨[], b, rfl, by simp, hn⟩
    | some x =>
      obtain ⟨p, u⟩ := x
      obtain ⟨h1, h2, h3⟩ := next_some hb hn
      have := fr_pos p
      obtain ⟨l, r, e1, e2, e3⟩ := ih (b.drop u) (by simp; omega) (hb.drop u)
      refine ⟨p :: l, r, ?_, ?_, e3⟩
      · rw [rows_cons, List.append_assoc, ← e1]; exact h3
      · intro q hq
        rcases List.mem_cons.1 hq with rfl | hq
        · exact h1
        · exact e2 q hq
theorem reads_one : ∀ (l l' : List (List Int)) (b r r' : List Int), Reads b l r → Reads b l' r' → l = l' ∧ r = r' := by
  intro l
  induction l with
  | nil =>
    intro l' b r r' h h'
    obtain ⟨h1, h2, h3⟩ := h
    obtain ⟨k1, k2, k3⟩ := h'
    cases l' with
    | nil => exact ⟨rfl, by rw [h1] at k1; exact k1⟩
    | cons p l' =>
      rw [h1] at k1
      have : nextP r = some (p, (fr p).length) := by
        rw [show r = fr p ++ (rows l' ++ r') by rw [← List.append_assoc, ← rows_cons, ← k1]; rfl]
        exact next_fr (k2 p (by simp)) _
      rw [h3] at this; cases this
  | cons p l ih =>
    intro l' b r r' h h'
    obtain ⟨h1, h2, h3⟩ := h
    obtain ⟨k1, k2, k3⟩ := h'
    cases l' with
    | nil =>
      rw [k1] at h1
      have : nextP r' = some (p, (fr p).length) := by
        rw [show r' = fr p ++ (rows l ++ r) by rw [← List.append_assoc, ← rows_cons, ← h1]; rfl]
        exact next_fr (h2 p (by simp)) _
      rw [k3] at this; cases this
    | cons q l' =>
      rw [h1, rows_cons, rows_cons, List.append_assoc, List.append_assoc] at k1
      obtain ⟨rfl, e⟩ := fr_inj (h2 p (by simp)) (k2 q (by simp)) k1
      obtain ⟨rfl, rfl⟩ := ih l' (rows l ++ r) r r' ⟨rfl, fun x hx => h2 x (by simp [hx]), h3⟩ ⟨e, fun x hx => k2 x (by simp [hx]), k3⟩
      exact ⟨rfl, rfl⟩
/-- the k-th record stands behind the frames ahead of it. -/
theorem reads_at {b r : List Int} {l : List (List Int)} (h : Reads b l r) (k : Nat) (hk : k < l.length) : nextP (b.drop (rows (l.take k)).length) = some (l.getD k [], (fr (l.getD k [])).length) := by
  obtain ⟨h1, h2, h3⟩ := h
  have e : l = l.take k ++ l.getD k [] :: l.drop (k + 1) := by
    conv => lhs; rw [← List.take_append_drop k l]
    rw [List.drop_eq_getElem_cons hk]
    simp [List.getD, List.getElem?_eq_getElem hk]
  have e2 : b.drop (rows (l.take k)).length = fr (l.getD k []) ++ (rows (l.drop (k + 1)) ++ r) := by
    rw [h1]
    conv => lhs; rw [show rows l = rows (l.take k) ++ rows (l.getD k [] :: l.drop (k + 1)) by rw [← rows_app, ← e]]
    rw [List.append_assoc, List.drop_left' rfl, rows_cons, List.append_assoc]
  rw [e2]
  refine next_fr (h2 _ ?_) _
  simp [List.getD, List.getElem?_eq_getElem hk]
theorem reads_end {b r : List Int} {l : List (List Int)} (h : Reads b l r) : nextP (b.drop (rows l).length) = none := by
  obtain ⟨h1, h2, h3⟩ := h
  rw [h1, List.drop_left' rfl]; exact h3
theorem rows_take_succ (l : List (List Int)) (k : Nat) (hk : k < l.length) : rows (l.take (k + 1)) = rows (l.take k) ++ fr (l.getD k []) := by
  rw [List.take_succ_eq_append_getElem hk, rows_app]
  simp [List.getD, List.getElem?_eq_getElem hk, rows]
theorem rows_take_le (l : List (List Int)) (k : Nat) : (rows (l.take k)).length ≤ (rows l).length := by
  conv => rhs; rw [← List.take_append_drop k l, rows_app]
  simp
theorem next_le {b : List Int} (hb : Byt b) {p : List Int} {u : Nat} (h : nextP b = some (p, u)) : u ≤ b.length ∧ p.length ≤ 65536 ∧ 5 ≤ u := by
  obtain ⟨h1, h2, h3⟩ := next_some hb h
  have h4 := congrArg List.length h3
  have := fr_pos p
  simp at h4
  omega
end Go.Proofs.Ytffopkpbekjanaa
