/- Plain mathematics of a number's text: what is read of digits is their number, at most the bound; what is written is read as the same number. No program in it. -/
import Derived.Test.YtdiflalllajagaaDoorPlain
namespace Go.Proofs.YtdiflalllajagaaDoor

def satN (a : Int) : Int := if 4611686018427387903 < a then 4611686018427387903 else a
def val (a : Int) (l : List UInt8) : Int := l.foldl (fun x c => x * 10 + ((c.toNat : Int) - 48)) a
def Dig (l : List UInt8) : Prop := ∀ c ∈ l, 48 ≤ c.toNat ∧ c.toNat ≤ 57

theorem Dig.nil : Dig [] := fun _ h => by cases h
theorem Dig.cons {c : UInt8} {l : List UInt8} (h : 48 ≤ c.toNat ∧ c.toNat ≤ 57) (hl : Dig l) : Dig (c :: l) := fun x hx => by
  rcases List.mem_cons.1 hx with rfl | hx
  · exact h
  · exact hl x hx
theorem Dig.head {c : UInt8} {l : List UInt8} (h : Dig (c :: l)) : 48 ≤ c.toNat ∧ c.toNat ≤ 57 := h c (List.mem_cons_self)
theorem Dig.tail {c : UInt8} {l : List UInt8} (h : Dig (c :: l)) : Dig l := fun x hx => h x (List.mem_cons_of_mem _ hx)
theorem Dig.append {a b : List UInt8} (ha : Dig a) (hb : Dig b) : Dig (a ++ b) := fun x hx => by
  rcases List.mem_append.1 hx with h | h
  · exact ha x h
  · exact hb x h
theorem Dig.left {a b : List UInt8} (h : Dig (a ++ b)) : Dig a := fun x hx => h x (List.mem_append_left _ hx)
theorem Dig.right {a b : List UInt8} (h : Dig (a ++ b)) : Dig b := fun x hx => h x (List.mem_append_right _ hx)

theorem val_cons (a : Int) (c : UInt8) (l : List UInt8) : val a (c :: l) = val (a * 10 + ((c.toNat : Int) - 48)) l := rfl
theorem val_append (a : Int) (l m : List UInt8) : val a (l ++ m) = val (val a l) m := by simp [val]
theorem val_nonneg : ∀ (l : List UInt8) {a : Int}, 0 ≤ a → Dig l → 0 ≤ val a l
  | [], _, h, _ => h
  | c :: l, a, h, hd => by
    rw [val_cons]
    exact val_nonneg l (by have := hd.head; omega) hd.tail
theorem val_shift : ∀ (l : List UInt8) (a : Int), val a l = a * 10 ^ l.length + val 0 l
  | [], a => by simp [val]
  | c :: l, a => by
    rw [val_cons, val_cons, val_shift l (a * 10 + ((c.toNat : Int) - 48)), val_shift l (0 * 10 + ((c.toNat : Int) - 48)), List.length_cons, Int.pow_succ]
    generalize (10 : Int) ^ l.length = p
    rw [Int.add_mul, Int.add_mul, Int.mul_assoc, Int.mul_comm 10 p]
    simp [Int.add_assoc]
theorem val_lt : ∀ (l : List UInt8), Dig l → val 0 l < 10 ^ l.length
  | [], _ => by simp [val]
  | c :: l, hd => by
    rw [val_cons, val_shift l, List.length_cons, Int.pow_succ]
    have h := val_lt l hd.tail
    have hp : (0 : Int) < 10 ^ l.length := Int.pow_pos (by decide)
    have h9 := Int.mul_le_mul_of_nonneg_right (show (0 * 10 + ((c.toNat : Int) - 48)) ≤ 9 by have := hd.head; omega) (Int.le_of_lt hp)
    omega

theorem beh_satN {a d : Int} (_h : 0 ≤ a) (h0 : 0 ≤ d) (h9 : d ≤ 9) : beh (satN a) d = satN (a * 10 + d) := by
  unfold satN
  by_cases h1 : 4611686018427387903 < a
  · rw [if_pos h1, if_pos (by omega), ← beh_gt (by omega)]
  · rw [if_neg h1]
    by_cases h2 : (4611686018427387903 - d) / 10 < a
    · rw [if_pos (by omega), ← beh_gt h2]
    · rw [if_neg (by omega), ← beh_le h2]
theorem satN_in {a : Int} (h : a ≤ 4611686018427387903) : satN a = a := by unfold satN; rw [if_neg (by omega)]
theorem satN_hi (a : Int) : satN a ≤ 4611686018427387903 := by unfold satN; split <;> omega
theorem satN_lo {a : Int} (h : 0 ≤ a) : 0 ≤ satN a := by unfold satN; split <;> omega
theorem satN_ne {a : Int} (h : satN a ≠ 4611686018427387903) : satN a = a := by
  unfold satN at *
  split at h
  · exact absurd rfl h
  · rename_i h'; rw [if_neg h']

theorem scan_digits : ∀ (ds t : List UInt8) (a : Int) (wh d : Nat), Dig ds → 0 ≤ a → d ≠ 3 → scan (ds ++ t) (satN a) wh d false = scan t (satN (val a ds)) (wh + ds.length) d false
  | [], t, a, wh, d, _, _, _ => rfl
  | c :: ds, t, a, wh, d, hd, ha, h3 => by
    have hc := hd.head
    rw [List.cons_append, scan_whole _ _ _ _ hc.1 hc.2 h3, beh_satN ha (by omega) (by omega), scan_digits ds t _ (wh + 1) d hd.tail (by omega) h3, val_cons, List.length_cons]
    congr 1; omega
theorem scan_decs : ∀ (ds : List UInt8) (a : Int) (wh d : Nat), Dig ds → 0 ≤ a → d + ds.length ≤ 3 → scan ds (satN a) wh d true = ([], satN (val a ds), wh, d + ds.length, true)
  | [], a, wh, d, _, _, _ => rfl
  | c :: ds, a, wh, d, hd, ha, h3 => by
    have hc := hd.head
    rw [List.length_cons] at h3
    rw [scan_dec _ _ _ _ hc.1 hc.2 (by omega), beh_satN ha (by omega) (by omega), scan_decs ds _ wh (d + 1) hd.tail (by omega) (by omega), val_cons, List.length_cons]
    rw [show d + 1 + ds.length = d + (ds.length + 1) by omega]
theorem padN_satN : ∀ (k : Nat) {a : Int}, 0 ≤ a → padN k (satN a) = satN (a * 10 ^ k)
  | 0, a, _ => by simp [padN]
  | k + 1, a, h => by
    rw [padN, beh_satN h (by omega) (by omega), padN_satN k (by omega), Int.pow_succ]
    congr 1
    rw [Int.add_zero, Int.mul_assoc, Int.mul_comm 10]

/-- A text of digits and perhaps a point and digits. -/
def Shape (l ds ps : List UInt8) (p : Bool) : Prop := Dig ds ∧ Dig ps ∧ ps.length ≤ 3 ∧ l = (if p = true then ds ++ 46 :: ps else ds) ∧ (p = false → ps = [])
theorem scan_of_shape {l ds ps : List UInt8} {p : Bool} (h : Shape l ds ps p) : scan l 0 0 0 false = ([], satN (val 0 (ds ++ ps)), ds.length, ps.length, p) := by
  obtain ⟨hd, hp, h3, rfl, h0⟩ := h
  have e0 : (0 : Int) = satN 0 := rfl
  cases p
  · obtain rfl := h0 rfl
    have := scan_digits ds [] 0 0 0 hd (by omega) (by omega)
    rw [List.append_nil, ← e0] at this
    simp only [Bool.false_eq_true, if_false, this, List.append_nil, scan_nil, Nat.zero_add, List.length_nil]
  · have := scan_digits ds (46 :: ps) 0 0 0 hd (by omega) (by omega)
    rw [← e0, scan_point ps _ _ _ rfl, scan_decs ps _ _ _ hp (val_nonneg ds (by omega) hd) (by omega), Nat.zero_add, Nat.zero_add] at this
    simp only [if_true, this, val_append]
theorem scan_shape_dec : ∀ (t : List UInt8) (n : Int) (wh d : Nat) (r : Int × Nat × Nat × Bool), d ≤ 3 → scan t n wh d true = ([], r) → Dig t ∧ d + t.length ≤ 3
  | [], _, _, d, _, h3, _ => ⟨Dig.nil, by simpa using h3⟩
  | c :: t, n, wh, d, r, h3, h => by
    by_cases hs : c.toNat < 48 ∨ 57 < c.toNat ∨ d = 3
    · rw [scan_stop t n wh d true (fun h => by cases h.2) hs] at h
      cases h
    · rw [scan_dec t n wh d (by omega) (by omega) (by omega)] at h
      obtain ⟨a, b⟩ := scan_shape_dec t _ wh (d + 1) r (by omega) h
      exact ⟨Dig.cons ⟨by omega, by omega⟩ a, by rw [List.length_cons]; omega⟩
theorem scan_shape : ∀ (t : List UInt8) (n : Int) (wh : Nat) (r : Int × Nat × Nat × Bool), scan t n wh 0 false = ([], r) → ∃ ds ps p, Shape t ds ps p
  | [], _, _, _, _ => ⟨[], [], false, Dig.nil, Dig.nil, by simp, rfl, fun _ => rfl⟩
  | c :: t, n, wh, r, h => by
    by_cases h46 : c = 46
    · rw [scan_point t n wh 0 h46] at h
      obtain ⟨a, b⟩ := scan_shape_dec t _ _ _ r (by omega) h
      exact ⟨[], t, true, Dig.nil, a, by simpa using b, by rw [h46]; rfl, fun h => by cases h⟩
    · by_cases hs : c.toNat < 48 ∨ 57 < c.toNat ∨ 0 = 3
      · rw [scan_stop t n wh 0 false (fun h => h46 h.1) hs] at h
        cases h
      · rw [scan_whole t n wh 0 (by omega) (by omega) (by omega)] at h
        obtain ⟨ds, ps, p, hd, hp, h3, rfl, h0⟩ := scan_shape t _ _ r h
        refine ⟨c :: ds, ps, p, Dig.cons ⟨by omega, by omega⟩ hd, hp, h3, ?_, h0⟩
        cases p <;> rfl
end Go.Proofs.YtdiflalllajagaaDoor
