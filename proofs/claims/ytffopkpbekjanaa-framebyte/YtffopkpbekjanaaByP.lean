/- Plain mathematics of one byte that is otherwise: no frame that is as long; no program is named. -/
import Derived.Test.YtffopkpbekjanaaFrP
namespace Go.Proofs.Ytffopkpbekjanaa
theorem byt_inj {x y : Int} (hx : 0 ≤ x ∧ x < 256) (hy : 0 ≤ y ∧ y < 256) (h : byt x = byt y) : x = y := by
  have := congrArg BitVec.toNat h
  unfold byt at this
  rw [BitVec.toNat_ofInt, BitVec.toNat_ofInt] at this
  omega
theorem one_byte (a c : List Int) {x y : Int} (hx : 0 ≤ x ∧ x < 256) (hy : 0 ≤ y ∧ y < 256) (h : sum (a ++ x :: c) = sum (a ++ y :: c)) : x = y := by
  have h1 : raw ones (a ++ x :: c) = raw ones (a ++ y :: c) := by rw [raw_of_sum, raw_of_sum, h]
  rw [raw_append, raw_append] at h1
  change raw (step (raw ones a) x) c = raw (step (raw ones a) y) c at h1
  have h2 := raw_xor c (step (raw ones a) y) (step (raw ones a) y ^^^ step (raw ones a) x)
  rw [← BitVec.xor_assoc, BitVec.xor_self, BitVec.zero_xor, h1] at h2
  have h3 : txn (8 * c.length) (step (raw ones a) y ^^^ step (raw ones a) x) = 0#32 := by
    have : raw (step (raw ones a) y) c ^^^ raw (step (raw ones a) y) c = raw (step (raw ones a) y) c ^^^ (raw (step (raw ones a) y) c ^^^ txn (8 * c.length) (step (raw ones a) y ^^^ step (raw ones a) x)) := by rw [← h2]
    rw [← BitVec.xor_assoc, BitVec.xor_self, BitVec.zero_xor] at this
    exact this.symm
  have h4 := xor_eq_zero (txn_inj_zero _ _ h3)
  unfold step at h4
  have h5 := txn_inj 8 _ _ h4
  have h6 : byt y = byt x := by
    have : raw ones a ^^^ (raw ones a ^^^ byt y) = raw ones a ^^^ (raw ones a ^^^ byt x) := by rw [h5]
    rw [← BitVec.xor_assoc, ← BitVec.xor_assoc, BitVec.xor_self, BitVec.zero_xor, BitVec.zero_xor] at this
    exact this
  exact (byt_inj hy hx h6).symm
theorem four_inj {s t : R} (h : four (s.toNat : Int) = four (t.toNat : Int)) : s = t := by
  unfold four at h
  injection h with h0 h
  injection h with h1 h
  injection h with h2 h
  injection h with h3 _
  rw [← four_all s, ← four_all t, h0, h1, h2, h3]
theorem set_split {α : Type} (l : List α) (i : Nat) (hi : i < l.length) (x : α) : l.set i x = l.take i ++ x :: l.drop (i + 1) := by
  rw [List.set_eq_take_append_cons_drop, if_pos hi]
theorem self_split {α : Type} (l : List α) (i : Nat) (hi : i < l.length) : l = l.take i ++ l[i] :: l.drop (i + 1) := by
  conv => lhs; rw [← List.take_append_drop i l, List.drop_eq_getElem_cons hi]
theorem otherwise {p : List Int} (hp : Byt p) (hl : p.length ≤ 65536) {i : Nat} (hi : i < (fr p).length) {x : Int} (hx : 0 ≤ x ∧ x < 256) (hne : x ≠ (fr p).getD i 0) {q : List Int} {u : Nat} (h : nextP ((fr p).set i x) = some (q, u)) : u < (fr p).length := by
  have hb' : Byt ((fr p).set i x) := fun z hz => by
    rcases List.mem_or_eq_of_mem_set hz with hz | rfl
    · exact fr_byt hp z hz
    · exact hx
  obtain ⟨h1, h2, h3⟩ := next_some hb' h
  have hlen := congrArg List.length h3
  rw [List.length_append, List.length_drop, List.length_set] at hlen
  have : u ≤ (fr p).length := by omega
  by_cases hu : u = (fr p).length
  · exfalso
    have hd : ((fr p).set i x).drop u = [] := List.drop_eq_nil_of_le (by rw [List.length_set]; omega)
    rw [hd, List.append_nil] at h3
    have hlp := fr_len p
    have hlq := fr_len q
    rw [vi_len (by omega)] at hlp hlq
    have hn : q.length = p.length := wide_mono (by omega)
    unfold fr at h3
    rw [hn] at h3
    have hbX : Byt (vi p.length ++ p) := (vi_byt _ _ (Nat.le_refl _)).app hp
    by_cases hX : i < (vi p.length ++ p).length
    · rw [List.set_append_left _ _ hX] at h3
      obtain ⟨e1, e2⟩ := List.append_inj h3 (by simp [hn])
      have e3 := four_inj e2
      rw [← e1, set_split _ _ hX] at e3
      conv at e3 => lhs; rw [self_split _ _ hX]
      have e4 := one_byte _ _ (hbX _ (List.getElem_mem hX)) hx e3
      apply hne
      rw [← e4]
      show _ = (vi p.length ++ p ++ four ((sum (vi p.length ++ p)).toNat : Int)).getD i 0
      rw [List.getD_eq_getElem?_getD, List.getElem?_append_left hX, List.getElem?_eq_getElem hX]
      rfl
    · rw [List.set_append_right _ _ (by omega)] at h3
      obtain ⟨e1, e2⟩ := List.append_inj h3 (by simp [hn])
      rw [← e1] at e2
      have hj : i - (vi p.length ++ p).length < 4 := by rw [fr_len] at hi; simp at hX ⊢; omega
      have e5 := congrArg (fun l : List Int => l[i - (vi p.length ++ p).length]?) e2
      rw [List.getElem?_set_self (by rw [four_len]; exact hj)] at e5
      apply hne
      show _ = (vi p.length ++ p ++ four ((sum (vi p.length ++ p)).toNat : Int)).getD i 0
      rw [List.getD_eq_getElem?_getD, List.getElem?_append_right (by omega), ← e5]
      rfl
  · omega
end Go.Proofs.Ytffopkpbekjanaa
