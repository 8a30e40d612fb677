/- Plain mathematics of the codec: numbers in bytes, what bytes begin with, values and their forms, what a reader tells; no program is named. -/
namespace Go.Proofs.Ythhfahnlcoiblaa
def Byt (zs : List Int) : Prop := ∀ z ∈ zs, 0 ≤ z ∧ z < 256
theorem Byt.app {a b : List Int} (h : Byt a) (k : Byt b) : Byt (a ++ b) := fun z hz => (List.mem_append.1 hz).elim (h z) (k z)
theorem Byt.left {a b : List Int} (h : Byt (a ++ b)) : Byt a := fun z hz => h z (List.mem_append.2 (.inl hz))
theorem Byt.right {a b : List Int} (h : Byt (a ++ b)) : Byt b := fun z hz => h z (List.mem_append.2 (.inr hz))
theorem Byt.take {a : List Int} (h : Byt a) (n : Nat) : Byt (a.take n) := fun z hz => h z (List.mem_of_mem_take hz)
theorem Byt.drop {a : List Int} (h : Byt a) (n : Nat) : Byt (a.drop n) := fun z hz => h z (List.mem_of_mem_drop hz)
theorem Byt.tail {c : Int} {a : List Int} (h : Byt (c :: a)) : Byt a := fun z hz => h z (List.mem_cons_of_mem _ hz)
theorem Byt.head {c : Int} {a : List Int} (h : Byt (c :: a)) : 0 ≤ c ∧ c < 256 := h c (by simp)
theorem byt_nil : Byt [] := fun z hz => by cases hz
theorem byt_one {z : Int} (h : 0 ≤ z ∧ z < 256) : Byt [z] := fun x hx => by simp at hx; subst hx; exact h
theorem Byt.getD {a : List Int} (h : Byt a) (i : Nat) (hi : i < a.length) : 0 ≤ a.getD i 0 ∧ a.getD i 0 < 256 := h _ (by simp [List.getD, List.getElem?_eq_getElem hi])
/-- a number in bytes. -/
def vi (n : Nat) : List Int := if n < 128 then [(n : Int)] else ((128 + n % 128 : Nat) : Int) :: vi (n / 128)
theorem vi_lt {n : Nat} (h : n < 128) : vi n = [(n : Int)] := by rw [vi, if_pos h]
theorem vi_ge {n : Nat} (h : ¬ n < 128) : vi n = ((128 + n % 128 : Nat) : Int) :: vi (n / 128) := by rw [vi, if_neg h]
theorem vi_byt : ∀ (m n : Nat), n ≤ m → Byt (vi n) := by
  intro m
  induction m with
  | zero => intro n h z hz; rw [vi_lt (by omega)] at hz; simp at hz; omega
  | succ m ih =>
    intro n h
    by_cases h1 : n < 128
    · intro z hz; rw [vi_lt h1] at hz; simp at hz; omega
    · intro z hz; rw [vi_ge h1] at hz
      rcases List.mem_cons.1 hz with rfl | hz
      · omega
      · exact ih _ (by omega) z hz
theorem vi_in (n : Nat) : Byt (vi n) := vi_byt n n (Nat.le_refl _)
theorem vi_pos (n : Nat) : 0 < (vi n).length := by
  by_cases h : n < 128
  · rw [vi_lt h]; simp
  · rw [vi_ge h]; simp
theorem vi_len_le : ∀ (k n : Nat), 0 < k → n < 128 ^ k → (vi n).length ≤ k := by
  intro k
  induction k with
  | zero => intro n h; omega
  | succ k ih =>
    intro n _ hn
    by_cases h : n < 128
    · rw [vi_lt h]; simp
    · rw [vi_ge h]
      by_cases hk : k = 0
      · subst hk; simp at hn; omega
      · have := ih (n / 128) (by omega) (by rw [Nat.pow_succ] at hn; omega)
        simp; omega
theorem vi_len10 {n : Nat} (h : n < 18446744073709551616) : (vi n).length ≤ 10 := vi_len_le 10 n (by omega) (by omega)
theorem vi_len_mono : ∀ (k m n : Nat), n ≤ k → m ≤ n → (vi m).length ≤ (vi n).length := by
  intro k
  induction k with
  | zero => intro m n h1 h2; rw [show m = n by omega]; exact Nat.le_refl _
  | succ k ih =>
    intro m n h1 h2
    by_cases hm : m < 128
    · rw [vi_lt hm]; exact vi_pos n
    · rw [vi_ge hm, vi_ge (show ¬ n < 128 by omega)]
      have := ih (m / 128) (n / 128) (by omega) (by omega)
      simpa using this
/-- the number that bytes begin with, and how many bytes it has. -/
def rdv : List Int → Option (Nat × Nat)
  | [] => none
  | c :: b => if c < 128 then some (c.toNat, 1) else match rdv b with
    | none => none
    | some (n, k) => if n = 0 then none else some ((c - 128).toNat + 128 * n, k + 1)
theorem rdv_vi : ∀ (m n : Nat) (r : List Int), n ≤ m → rdv (vi n ++ r) = some (n, (vi n).length) := by
  intro m
  induction m with
  | zero => intro n r h; rw [vi_lt (by omega)]; simp [rdv]; omega
  | succ m ih =>
    intro n r h
    by_cases h1 : n < 128
    · rw [vi_lt h1]; simp [rdv]; omega
    · rw [vi_ge h1, List.cons_append, rdv, if_neg (by omega), ih (n / 128) r (by omega)]
      simp only
      rw [if_neg (by omega)]
      simp; omega
theorem rdv_some : ∀ (b : List Int), Byt b → ∀ (n k : Nat), rdv b = some (n, k) → k = (vi n).length ∧ b = vi n ++ b.drop k
  | [], _, n, k, h => by cases h
  | c :: b, hb, n, k, h => by
    have hc := hb.head
    rw [rdv] at h
    by_cases c1 : c < 128
    · rw [if_pos c1] at h; cases h
      rw [vi_lt (by omega)]
      refine ⟨rfl, ?_⟩
      simp; omega
    · rw [if_neg c1] at h
      cases hr : rdv b with
      | none => rw [hr] at h; cases h
      | some x =>
        obtain ⟨m, j⟩ := x
        rw [hr] at h
        simp only at h
        by_cases hm : m = 0
        · rw [if_pos hm] at h; cases h
        · rw [if_neg hm] at h; cases h
          obtain ⟨h1, h2⟩ := rdv_some b hb.tail m j hr
          have e : vi ((c - 128).toNat + 128 * m) = c :: vi m := by
            rw [vi_ge (by omega), show ((c - 128).toNat + 128 * m) / 128 = m by omega]
            congr 1; omega
          rw [e]
          refine ⟨by simp [h1], ?_⟩
          simp only [List.drop_succ_cons, List.cons_append, List.cons.injEq, true_and]
          exact h2
/-- the number whose digits to 128 these bytes say, the lowest first. -/
def val : List Int → Nat
  | [] => 0
  | c :: b => (c % 128).toNat + 128 * val b
theorem val_snoc (b : List Int) (c : Int) : val (b ++ [c]) = val b + (c % 128).toNat * 128 ^ b.length := by
  induction b with
  | nil => simp [val]
  | cons x b ih => simp only [List.cons_append, val, ih, List.length_cons, Nat.pow_succ, Nat.mul_add]; rw [show (c % 128).toNat * (128 ^ b.length * 128) = 128 * ((c % 128).toNat * 128 ^ b.length) by ac_rfl]; omega
theorem val_lt (b : List Int) : val b < 128 ^ b.length := by
  induction b with
  | nil => simp [val]
  | cons x b ih => simp only [val, List.length_cons, Nat.pow_succ]; have : (x % 128).toNat < 128 := by omega
                   omega
theorem val_vi : ∀ (m n : Nat), n ≤ m → val (vi n) = n := by
  intro m
  induction m with
  | zero => intro n h; rw [vi_lt (by omega)]; simp [val]; omega
  | succ m ih =>
    intro n h
    by_cases h1 : n < 128
    · rw [vi_lt h1]; simp [val]; omega
    · rw [vi_ge h1, val, ih _ (by omega)]; omega
theorem rdv_at : ∀ (k : Nat) (zs : List Int), Byt zs → (∀ j, j < k → 128 ≤ zs.getD j 0) → k < zs.length → zs.getD k 0 < 128 → rdv zs = if zs.getD k 0 = 0 ∧ 0 < k then none else some (val (zs.take (k + 1)), k + 1)
  | 0, [], _, _, h, _ => by simp at h
  | 0, c :: b, hb, _, _, hc => by
    have h0 := hb.head
    simp at hc
    simp [rdv, hc, val]; omega
  | k + 1, [], _, _, h, _ => by simp at h
  | k + 1, c :: b, hb, hj, hl, hc => by
    have h0 := hb.head
    have hc0 := hj 0 (by omega)
    simp at hc0 hl
    have hc' : b.getD k 0 < 128 := by simpa using hc
    have ih := rdv_at k b hb.tail (fun j h => by simpa using hj (j + 1) (by omega)) hl hc'
    rw [rdv, if_neg (by omega), ih]
    have hgd : (c :: b).getD (k + 1) 0 = b.getD k 0 := by simp
    rw [hgd]
    have ht : b.take (k + 1) = b.take k ++ [b.getD k 0] := by rw [List.take_succ_eq_append_getElem hl]; simp [List.getD, List.getElem?_eq_getElem hl]
    have hv : val (b.take (k + 1)) = val (b.take k) + (b.getD k 0 % 128).toNat * 128 ^ k := by
      rw [ht, val_snoc, List.length_take, Nat.min_eq_left (by omega)]
    have hz := hb.tail.getD k hl
    by_cases e : b.getD k 0 = 0
    · rw [if_pos (c := b.getD k 0 = 0 ∧ 0 < k + 1) ⟨e, by omega⟩]
      by_cases hk : 0 < k
      · rw [if_pos ⟨e, hk⟩]
      · rw [if_neg (by omega)]
        simp only
        rw [if_pos]
        obtain rfl : k = 0 := by omega
        rw [hv, e]; simp [val]
    · rw [if_neg (by omega), if_neg (by omega)]
      simp only
      have hp : 0 < (b.getD k 0 % 128).toNat * 128 ^ k := Nat.mul_pos (by omega) (Nat.pow_pos (by omega))
      rw [if_neg (by omega), List.take_succ_cons, val]
      congr 2
      omega
theorem rdv_none : ∀ (zs : List Int), (∀ j, j < zs.length → 128 ≤ zs.getD j 0) → rdv zs = none
  | [], _ => rfl
  | c :: b, h => by
    have h0 := h 0 (by simp)
    simp at h0
    rw [rdv, if_neg (by omega), rdv_none b (fun j hj => by simpa using h (j + 1) (by simpa using hj))]
theorem rdv_big : ∀ (k : Nat) (zs : List Int) (n m : Nat), (∀ j, j < k → 128 ≤ zs.getD j 0) → rdv zs = some (n, m) → k = 0 ∨ 128 ^ k ≤ n
  | 0, _, _, _, _, _ => .inl rfl
  | k + 1, [], _, _, _, h => by cases h
  | k + 1, c :: b, n, m, hj, h => by
    have h0 := hj 0 (by omega)
    simp at h0
    rw [rdv, if_neg (by omega)] at h
    cases hr : rdv b with
    | none => rw [hr] at h; cases h
    | some x =>
      obtain ⟨p, q⟩ := x
      rw [hr] at h
      simp only at h
      by_cases hp : p = 0
      · rw [if_pos hp] at h; cases h
      · rw [if_neg hp] at h; cases h
        right
        have ih := rdv_big k b p q (fun j h => by simpa using hj (j + 1) (by omega)) hr
        rw [Nat.pow_succ]
        rcases ih with rfl | ih
        · simp; omega
        · omega
/-- .. at most 2^64 - 1. -/
def numP (zs : List Int) : Option (Nat × Nat) := match rdv zs with
  | none => none
  | some (n, k) => if n < 18446744073709551616 then some (n, k) else none
theorem numP_vi {n : Nat} (h : n < 18446744073709551616) (r : List Int) : numP (vi n ++ r) = some (n, (vi n).length) := by
  unfold numP; rw [rdv_vi n n r (Nat.le_refl _)]; simp only; rw [if_pos h]
theorem numP_some {zs : List Int} (hb : Byt zs) {n k : Nat} (h : numP zs = some (n, k)) : n < 18446744073709551616 ∧ k = (vi n).length ∧ zs = vi n ++ zs.drop k := by
  unfold numP at h
  cases hr : rdv zs with
  | none => rw [hr] at h; cases h
  | some x =>
    obtain ⟨p, q⟩ := x
    rw [hr] at h
    simp only at h
    by_cases hp : p < 18446744073709551616
    · rw [if_pos hp] at h; cases h
      obtain ⟨h1, h2⟩ := rdv_some zs hb _ _ hr
      exact ⟨hp, h1, h2⟩
    · rw [if_neg hp] at h; cases h
theorem numP_len {zs : List Int} (hb : Byt zs) {n k : Nat} (h : numP zs = some (n, k)) : 0 < k ∧ k ≤ 10 ∧ k ≤ zs.length ∧ zs.take k = vi n := by
  obtain ⟨h1, h2, h3⟩ := numP_some hb h
  have h4 := vi_len10 h1
  have h5 := vi_pos n
  have h6 := congrArg List.length h3
  simp at h6
  refine ⟨by omega, by omega, by omega, ?_⟩
  conv => lhs; rw [h3]
  rw [h2]; simp
/-- where the first byte below 128 stands. -/
theorem numP_stop {zs : List Int} (hb : Byt zs) {k : Nat} (hj : ∀ j, j < k → 128 ≤ zs.getD j 0) (hk : k < zs.length) (hc : zs.getD k 0 < 128) (h9 : k ≤ 9) :
    numP zs = if (zs.getD k 0 = 0 ∧ 0 < k) ∨ (1 < zs.getD k 0 ∧ k = 9) then none else some (val (zs.take (k + 1)), k + 1) := by
  have hz := hb.getD k hk
  have ht : zs.take (k + 1) = zs.take k ++ [zs.getD k 0] := by rw [List.take_succ_eq_append_getElem hk]; simp [List.getD, List.getElem?_eq_getElem hk]
  have hv : val (zs.take (k + 1)) = val (zs.take k) + (zs.getD k 0).toNat * 128 ^ k := by
    rw [ht, val_snoc, List.length_take, Nat.min_eq_left (by omega), show zs.getD k 0 % 128 = zs.getD k 0 by omega]
  have hlt : val (zs.take k) < 128 ^ k := by have := val_lt (zs.take k); rwa [List.length_take, Nat.min_eq_left (by omega)] at this
  unfold numP
  rw [rdv_at k zs hb hj hk hc]
  by_cases h1 : zs.getD k 0 = 0 ∧ 0 < k
  · rw [if_pos h1, if_pos (.inl h1)]
  · rw [if_neg h1]
    simp only
    by_cases h2 : 1 < zs.getD k 0 ∧ k = 9
    · rw [if_pos (c := (zs.getD k 0 = 0 ∧ 0 < k) ∨ (1 < zs.getD k 0 ∧ k = 9)) (.inr h2), if_neg]
      obtain ⟨h3, rfl⟩ := h2
      rw [hv]
      have : 2 * 128 ^ 9 ≤ (zs.getD 9 0).toNat * 128 ^ 9 := Nat.mul_le_mul_right _ (by omega)
      have e9 : 2 * 128 ^ 9 = 18446744073709551616 := by decide
      omega
    · rw [if_neg (c := (zs.getD k 0 = 0 ∧ 0 < k) ∨ (1 < zs.getD k 0 ∧ k = 9)) (by intro h; exact h.elim h1 h2), if_pos]
      rw [hv]
      by_cases hk9 : k = 9
      · subst hk9
        have : (zs.getD 9 0).toNat * 128 ^ 9 ≤ 1 * 128 ^ 9 := Nat.mul_le_mul_right _ (by omega)
        have e9 : 128 ^ 9 = 9223372036854775808 := by decide
        omega
      · have h8 : 128 ^ (k + 1) ≤ 128 ^ 9 := Nat.pow_le_pow_right (by omega) (by omega)
        have e9 : 128 ^ 9 = 9223372036854775808 := by decide
        have : (zs.getD k 0).toNat * 128 ^ k ≤ 127 * 128 ^ k := Nat.mul_le_mul_right _ (by omega)
        rw [Nat.pow_succ] at h8
        omega
theorem numP_end {zs : List Int} (hj : ∀ j, j < min zs.length 10 → 128 ≤ zs.getD j 0) : numP zs = none := by
  unfold numP
  by_cases h : zs.length ≤ 10
  · rw [rdv_none zs (fun j h2 => hj j (by omega))]
  · cases hr : rdv zs with
    | none => rfl
    | some x =>
      obtain ⟨n, m⟩ := x
      have := rdv_big 10 zs n m (fun j h2 => hj j (by omega)) hr
      have e : 128 ^ 10 = 1180591620717411303424 := by decide
      simp only
      rw [if_neg (by omega)]
/-- a signed number's number. -/
def zz (i : Int) : Nat := if 0 ≤ i then (2 * i).toNat else (2 * (-(i + 1)) + 1).toNat
def unz (n : Nat) : Int := if n % 2 = 1 then -((n / 2 : Nat) : Int) - 1 else ((n / 2 : Nat) : Int)
theorem unz_zz (i : Int) : unz (zz i) = i := by unfold unz zz; split <;> split <;> omega
theorem zz_unz (n : Nat) : zz (unz n) = n := by unfold unz zz; split <;> split <;> omega
theorem zz_lt {i : Int} (h : -9223372036854775808 ≤ i ∧ i ≤ 9223372036854775807) : zz i < 18446744073709551616 := by unfold zz; split <;> omega
theorem unz_in {n : Nat} (h : n < 18446744073709551616) : -9223372036854775808 ≤ unz n ∧ unz n ≤ 9223372036854775807 := by unfold unz; split <;> omega
def ints (s : List UInt8) : List Int := s.map fun c => (c.toNat : Int)
def byts (zs : List Int) : List UInt8 := zs.map fun z => UInt8.ofNat z.toNat
theorem ints_len (s : List UInt8) : (ints s).length = s.length := by simp [ints]
theorem byts_len (s : List Int) : (byts s).length = s.length := by simp [byts]
theorem ints_byt (s : List UInt8) : Byt (ints s) := fun z hz => by
  obtain ⟨c, _, rfl⟩ := List.mem_map.1 hz
  have := c.toNat_lt; omega
theorem byts_ints (s : List UInt8) : byts (ints s) = s := by
  unfold byts ints; rw [List.map_map]
  conv => rhs; rw [← List.map_id s]
  apply List.map_congr_left; intro c _; simp
theorem ints_byts {zs : List Int} (h : Byt zs) : ints (byts zs) = zs := by
  unfold byts ints; rw [List.map_map]
  conv => rhs; rw [← List.map_id zs]
  apply List.map_congr_left; intro z hz
  have := h z hz
  show ((UInt8.ofNat z.toNat).toNat : Int) = z
  rw [UInt8.toNat_ofNat_of_lt' (by show z.toNat < 256; omega)]; omega
/-- a value. -/
structure Vl where
  k : Nat
  u : Nat
  i : Int
  b : Bool
  l : List Int
  s : List UInt8
  n : Int
def zeroV (k : Nat) : Vl := ⟨k, 0, 0, false, [], [], 0⟩
structure Vl.Ok (v : Vl) : Prop where
  k : v.k < 256
  u : v.u < 18446744073709551616
  i : -9223372036854775808 ≤ v.i ∧ v.i ≤ 9223372036854775807
  n : -9223372036854775808 ≤ v.n ∧ v.n ≤ 9223372036854775807
  l : Byt v.l
/-- its bytes. -/
def form (v : Vl) : List Int := match v.k with
  | 0 => vi v.u
  | 1 => vi (zz v.i)
  | 2 => [if v.b then 1 else 0]
  | 3 => vi v.l.length ++ v.l
  | 4 => vi v.s.length ++ ints v.s
  | 5 => vi v.n.toNat
  | _ => []
theorem form_byt {v : Vl} (h : v.Ok) : Byt (form v) := by
  unfold form
  split
  · exact vi_in _
  · exact vi_in _
  · exact byt_one (by split <;> omega)
  · exact (vi_in _).app h.l
  · exact (vi_in _).app (ints_byt _)
  · exact vi_in _
  · exact byt_nil
theorem form_len {v : Vl} (h : v.Ok) (hl : v.l.length < 18446744073709551616) (hs : v.s.length < 18446744073709551616) : (form v).length ≤ 10 + v.l.length + v.s.length := by
  have h1 := vi_len10 h.u
  have h2 := vi_len10 (zz_lt h.i)
  have h3 := vi_len10 hl
  have h4 := vi_len10 hs
  have h5 := vi_len10 (n := v.n.toNat) (by have := h.n; omega)
  unfold form
  split <;> simp [ints] <;> omega
/-- a reader: what is left; none: it has failed. -/
abbrev St := Option (List Int)
def rnumL (most : Nat) (zs : List Int) : Nat × St := match numP zs with
  | none => (0, none)
  | some (n, k) => if n ≤ most then (n, some (zs.drop k)) else (0, none)
def rnum (most : Nat) : St → Nat × St
  | none => (0, none)
  | some zs => rnumL most zs
theorem rnum_eq (m : Nat) (zs : List Int) : rnum m (some zs) = rnumL m zs := rfl
def rpiece (st : St) : List Int × St := match rnum 18446744073709551615 st with
  | (_, none) => ([], none)
  | (n, some zs) => if n ≤ zs.length then (zs.take n, some (zs.drop n)) else ([], none)
def readP (k : Nat) (most : Int) (st : St) : Vl × St := match k with
  | 0 => ({ zeroV 0 with u := (rnum 18446744073709551615 st).1 }, (rnum 18446744073709551615 st).2)
  | 1 => ({ zeroV 1 with i := unz (rnum 18446744073709551615 st).1 }, (rnum 18446744073709551615 st).2)
  | 2 => ({ zeroV 2 with b := (rnum 1 st).1 == 1 }, (rnum 1 st).2)
  | 3 => ({ zeroV 3 with l := (rpiece st).1 }, (rpiece st).2)
  | 4 => ({ zeroV 4 with s := byts (rpiece st).1 }, (rpiece st).2)
  | 5 => if most < 0 then (zeroV 5, none) else ({ zeroV 5 with n := (rnum most.toNat st).1 }, (rnum most.toNat st).2)
  | k => (zeroV k, st)
def errP : St → Int
  | none => 60
  | some _ => 0
def doneP : St → Int
  | none => 60
  | some [] => 0
  | some (_ :: _) => 60
def Bst : St → Prop
  | none => True
  | some zs => Byt zs
theorem rnum_none (m : Nat) : rnum m none = (0, none) := rfl
theorem rnum_le (m : Nat) (st : St) : (rnum m st).1 ≤ m := by
  cases st with
  | none => simp [rnum]
  | some zs =>
    rw [rnum_eq]
    unfold rnumL
    cases h : numP zs with
    | none => simp
    | some x =>
      obtain ⟨n, k⟩ := x
      simp only
      split
      · assumption
      · simp
theorem rnum_lt (m : Nat) {st : St} : (rnum m st).1 < 18446744073709551616 := by
  cases st with
  | none => simp [rnum]
  | some zs =>
    rw [rnum_eq]
    unfold rnumL
    cases h : numP zs with
    | none => simp
    | some x =>
      obtain ⟨n, k⟩ := x
      unfold numP at h
      simp only
      split
      · cases hr : rdv zs with
        | none => rw [hr] at h; cases h
        | some y =>
          obtain ⟨p, q⟩ := y
          rw [hr] at h
          simp only at h
          split at h
          · cases h; assumption
          · cases h
      · simp
theorem rnum_fail (m : Nat) {st : St} (h : (rnum m st).2 = none) : (rnum m st).1 = 0 := by
  cases st with
  | none => rfl
  | some zs =>
    rw [rnum_eq] at h ⊢
    unfold rnumL at h ⊢
    cases hn : numP zs with
    | none => rfl
    | some x =>
      obtain ⟨n, k⟩ := x
      rw [hn] at h
      simp only at h ⊢
      split at h
      · cases h
      · rename_i hh; rw [if_neg hh]
theorem rnum_some (m : Nat) {zs r : List Int} (hb : Byt zs) (h : (rnum m (some zs)).2 = some r) : zs = vi (rnum m (some zs)).1 ++ r ∧ (rnum m (some zs)).1 < 18446744073709551616 := by
  rw [rnum_eq] at h ⊢
  unfold rnumL at h ⊢
  cases hn : numP zs with
  | none => rw [hn] at h; cases h
  | some x =>
    obtain ⟨n, k⟩ := x
    rw [hn] at h
    simp only at h ⊢
    by_cases hh : n ≤ m
    · rw [if_pos hh] at h ⊢
      simp only at h ⊢
      cases h
      obtain ⟨h1, h2, h3⟩ := numP_some hb hn
      exact ⟨h3, h1⟩
    · rw [if_neg hh] at h; cases h
theorem rnum_vi (m : Nat) {n : Nat} (h : n < 18446744073709551616) (hm : n ≤ m) (r : List Int) : rnum m (some (vi n ++ r)) = (n, some r) := by
  rw [rnum_eq]
  unfold rnumL
  rw [numP_vi h]
  simp only
  rw [if_pos hm]
  simp
theorem rnum_bst (m : Nat) {st : St} (h : Bst st) : Bst (rnum m st).2 := by
  cases st with
  | none => trivial
  | some zs =>
    rw [rnum_eq]
    unfold rnumL
    cases hn : numP zs with
    | none => trivial
    | some x =>
      obtain ⟨n, k⟩ := x
      simp only
      split
      · exact Byt.drop h k
      · trivial
theorem rpiece_bst {st : St} (h : Bst st) : Bst (rpiece st).2 ∧ Byt (rpiece st).1 := by
  have h1 := rnum_bst 18446744073709551615 h
  unfold rpiece
  split
  · exact ⟨trivial, byt_nil⟩
  · rename_i n zs hr
    rw [hr] at h1
    split
    · exact ⟨Byt.drop h1 n, Byt.take h1 n⟩
    · exact ⟨trivial, byt_nil⟩
theorem rpiece_none : rpiece none = ([], none) := rfl
theorem rpiece_fail {st : St} (h : (rpiece st).2 = none) : (rpiece st).1 = [] := by
  unfold rpiece at h ⊢
  cases hr : rnum 18446744073709551615 st with
  | mk n st' =>
    cases st' with
    | none => rfl
    | some zs =>
      rw [hr] at h
      simp only at h ⊢
      split at h
      · cases h
      · rename_i hh; rw [if_neg hh]
theorem rpiece_vi {p : List Int} (h : p.length < 18446744073709551616) (r : List Int) : rpiece (some (vi p.length ++ p ++ r)) = (p, some r) := by
  unfold rpiece
  rw [List.append_assoc, rnum_vi _ h (by omega)]
  simp
theorem rpiece_some {zs r : List Int} (hb : Byt zs) (h : (rpiece (some zs)).2 = some r) : zs = vi (rpiece (some zs)).1.length ++ (rpiece (some zs)).1 ++ r := by
  have h1 := @rnum_some 18446744073709551615 zs
  unfold rpiece at h ⊢
  cases hr : rnum 18446744073709551615 (some zs) with
  | mk n st' =>
    cases st' with
    | none => rw [hr] at h; cases h
    | some ys =>
      rw [hr] at h
      simp only at h ⊢
      by_cases hh : n ≤ ys.length
      · rw [if_pos hh] at h ⊢
        simp only at h ⊢
        cases h
        obtain ⟨h2, _⟩ := h1 hb (by rw [hr])
        rw [hr] at h2
        simp only at h2
        rw [List.length_take, Nat.min_eq_left hh, List.append_assoc, List.take_append_drop]
        exact h2
      · rw [if_neg hh] at h; cases h
theorem kinds (k : Nat) : k = 0 ∨ k = 1 ∨ k = 2 ∨ k = 3 ∨ k = 4 ∨ k = 5 ∨ ∃ j, k = j + 6 := by
  by_cases h : k < 6
  · omega
  · exact .inr (.inr (.inr (.inr (.inr (.inr ⟨k - 6, by omega⟩)))))
theorem readP_none (k : Nat) (most : Int) : readP k most none = (zeroV k, none) := by
  obtain rfl | rfl | rfl | rfl | rfl | rfl | ⟨j, rfl⟩ := kinds k
  · rfl
  · rfl
  · rfl
  · rfl
  · rfl
  · simp only [readP]
    split <;> rfl
  · rfl
theorem readP_fail (k : Nat) (most : Int) (st : St) (h : (readP k most st).2 = none) : (readP k most st).1 = zeroV k := by
  unfold readP at h ⊢
  split at h
  · have := rnum_fail _ h; simp only [this]; rfl
  · have := rnum_fail _ h; simp only [this]; rfl
  · have := rnum_fail _ h; simp only [this]; rfl
  · have := rpiece_fail h; simp only [this]; rfl
  · have := rpiece_fail h; simp only [this]; rfl
  · simp only at h ⊢
    split at h
    · rename_i hm; rw [if_pos hm]
    · rename_i hm
      rw [if_neg hm]
      have := rnum_fail _ h; simp only [this]; rfl
  · rfl
theorem readP_bst (k : Nat) (most : Int) {st : St} (h : Bst st) : Bst (readP k most st).2 := by
  unfold readP
  split
  · exact rnum_bst _ h
  · exact rnum_bst _ h
  · exact rnum_bst _ h
  · exact (rpiece_bst h).1
  · exact (rpiece_bst h).1
  · split
    · trivial
    · exact rnum_bst _ h
  · exact h
theorem readP_kind (k : Nat) (most : Int) (st : St) : (readP k most st).1.k = k := by
  unfold readP
  split <;> first | rfl | (split <;> rfl)
/-- what a script is to be told. -/
def wantV (v : Vl) : Vl := match v.k with
  | 0 => { zeroV 0 with u := v.u }
  | 1 => { zeroV 1 with i := v.i }
  | 2 => { zeroV 2 with b := v.b }
  | 3 => { zeroV 3 with l := v.l }
  | 4 => { zeroV 4 with s := v.s }
  | 5 => { zeroV 5 with n := max v.n 0 }
  | k => zeroV k
/-- there and back. -/
theorem read_back {v : Vl} (h : v.Ok) (hl : v.l.length < 18446744073709551616) (hs : v.s.length < 18446744073709551616) (r : List Int) : readP v.k (max v.n 0) (some (form v ++ r)) = (wantV v, some r) := by
  obtain ⟨k, u, i, b, l, s, n⟩ := v
  have hu := h.u
  have hi := zz_lt h.i
  have hn := h.n
  simp only at hu hi hn hl hs
  obtain rfl | rfl | rfl | rfl | rfl | rfl | ⟨j, rfl⟩ := kinds k
  · simp only [readP, form, wantV]
    rw [rnum_vi _ hu (by omega)]
  · simp only [readP, form, wantV]
    rw [rnum_vi _ hi (by omega)]; simp [unz_zz]
  · simp only [readP, form, wantV]
    cases b
    · have := rnum_vi 1 (n := 0) (by omega) (by omega) r
      rw [vi_lt (by omega)] at this
      simp at this
      simp [this]
    · have := rnum_vi 1 (n := 1) (by omega) (by omega) r
      rw [vi_lt (by omega)] at this
      simp at this
      simp [this]
  · simp only [readP, form, wantV]
    rw [rpiece_vi hl]
  · simp only [readP, form, wantV]
    have := rpiece_vi (p := ints s) (by rw [ints_len]; exact hs) r
    rw [ints_len] at this
    rw [this]; simp [byts_ints]
  · simp only [readP, form, wantV]
    rw [if_neg (by omega), rnum_vi _ (by omega) (by omega)]
    simp [zeroV]
  · rfl
/-- one form. -/
theorem read_one {k : Nat} {most : Int} {zs r : List Int} (hb : Byt zs) (h : (readP k most (some zs)).2 = some r) (hk : k ≤ 5) : zs = form (readP k most (some zs)).1 ++ r := by
  obtain rfl | rfl | rfl | rfl | rfl | rfl | ⟨j, rfl⟩ := kinds k
  all_goals simp only [readP] at h ⊢
  · exact (rnum_some _ hb h).1
  · have := (rnum_some _ hb h).1
    simp only [form, zz_unz]
    exact this
  · have h1 := (rnum_some _ hb h).1
    have h2 := rnum_le 1 (some zs)
    simp only [form]
    generalize rnum 1 (some zs) = x at *
    rw [vi_lt (by omega)] at h1
    rw [h1]
    obtain ⟨n, st⟩ := x
    simp only at h2 ⊢
    obtain rfl | rfl : n = 0 ∨ n = 1 := by omega
    · rfl
    · rfl
  · exact rpiece_some hb h
  · have h1 := rpiece_some hb h
    have h2 := (rpiece_bst (st := some zs) hb).2
    simp only [form]
    rw [byts_len, ints_byts h2]
    exact h1
  · split at h
    · cases h
    · rename_i hm
      rw [if_neg hm]
      simp only [form, Int.toNat_natCast]
      exact (rnum_some _ hb h).1
  · omega
theorem readP_ok (k : Nat) (most : Int) {st : St} (hb : Bst st) (hk : k < 256) (hm : most ≤ 9223372036854775807) : (readP k most st).1.Ok := by
  have z : ∀ k, k < 256 → (zeroV k).Ok := fun k hk => ⟨hk, by simp [zeroV], by simp [zeroV], by simp [zeroV], by simp [zeroV, byt_nil]⟩
  unfold readP
  split
  · exact ⟨by simp [zeroV], rnum_lt _, by simp [zeroV], by simp [zeroV], by simp [zeroV, byt_nil]⟩
  · exact ⟨by simp [zeroV], by simp [zeroV], unz_in (rnum_lt _), by simp [zeroV], by simp [zeroV, byt_nil]⟩
  · exact ⟨by simp [zeroV], by simp [zeroV], by simp [zeroV], by simp [zeroV], by simp [zeroV, byt_nil]⟩
  · exact ⟨by simp [zeroV], by simp [zeroV], by simp [zeroV], by simp [zeroV], (rpiece_bst hb).2⟩
  · exact ⟨by simp [zeroV], by simp [zeroV], by simp [zeroV], by simp [zeroV], by simp [zeroV, byt_nil]⟩
  · split
    · exact z 5 (by omega)
    · refine ⟨by simp [zeroV], by simp [zeroV], by simp [zeroV], ?_, by simp [zeroV, byt_nil]⟩
      have := rnum_le most.toNat st
      simp only
      omega
  · exact z _ hk
/-- a bool is just one of two bytes. -/
theorem rnum_one (zs : List Int) (hb : Byt zs) : rnum 1 (some zs) = match zs with
    | [] => (0, none)
    | c :: r => if c ≤ 1 then (c.toNat, some r) else (0, none) := by
  cases zs with
  | nil => rfl
  | cons c r =>
    have hc := hb.head
    rw [rnum_eq]
    unfold rnumL numP
    rw [rdv]
    simp only
    by_cases h : c < 128
    · rw [if_pos h]
      simp only
      rw [if_pos (by omega)]
      simp only
      by_cases h1 : c ≤ 1
      · rw [if_pos h1, if_pos (by omega)]; simp
      · rw [if_neg h1, if_neg (by omega)]
    · rw [if_neg h, if_neg (by omega)]
      cases hr : rdv r with
      | none => rfl
      | some x =>
        obtain ⟨n, k⟩ := x
        simp only
        by_cases hn : n = 0
        · rw [if_pos hn]
        · rw [if_neg hn]
          simp only
          by_cases hn2 : (c - 128).toNat + 128 * n < 18446744073709551616
          · rw [if_pos hn2]; simp only; rw [if_neg (by omega)]
          · rw [if_neg hn2]
end Go.Proofs.Ythhfahnlcoiblaa
