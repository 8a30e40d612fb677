/- Plain mathematics of FilesLong: a file that grows by noughts; files of so many names. -/
import Derived.Test.YtinnegkkfaaceaaEndsP
namespace Go.Proofs.Ytinnegkkfaaceaa
namespace filesLong

def F (size acts : Nat) : St := ⟨if size = 0 then [] else [⟨[97], List.replicate size 0, 0⟩], acts, -1⟩
theorem app_yes (size acts n : Nat) (h : size + n ≤ 1048576) (hn : 0 < n) : (F size acts).append [97] (List.replicate n 0) = (0, F (size + n) (acts + 1)) := by
  unfold St.append
  rw [if_neg (show ¬ (F size acts).left = 0 by show ¬ (-1 : Int) = 0; decide), if_neg (show ¬ mayB [97] = false by decide)]
  by_cases h0 : size = 0
  · subst h0
    show (if 1048576 < (List.replicate n (0 : UInt8)).length then _ else (0, (⟨[⟨[97], List.replicate n 0, 0⟩], acts + 1, -1⟩ : St))) = _
    rw [if_neg (by simp; omega)]
    unfold F
    rw [if_neg (by omega), Nat.zero_add]
  · have e : F size acts = ⟨[⟨[97], List.replicate size 0, 0⟩], acts, -1⟩ := by unfold F; rw [if_neg h0]
    rw [e]
    show (if 1048576 < (List.replicate size (0 : UInt8)).length + (List.replicate n (0 : UInt8)).length then _ else (0, (⟨[⟨[97], List.replicate size 0 ++ List.replicate n 0, 0⟩], acts + 1, -1⟩ : St))) = _
    rw [if_neg (by simp; omega)]
    unfold F
    rw [if_neg (by omega), List.replicate_append_replicate]
theorem app_no (size acts n : Nat) (h : 1048576 < size + n) (hs : size ≠ 0) : (F size acts).append [97] (List.replicate n 0) = (3, F size acts) := by
  unfold St.append
  rw [if_neg (show ¬ (F size acts).left = 0 by show ¬ (-1 : Int) = 0; decide), if_neg (show ¬ mayB [97] = false by decide)]
  have e : F size acts = ⟨[⟨[97], List.replicate size 0, 0⟩], acts, -1⟩ := by unfold F; rw [if_neg hs]
  rw [e]
  show (if 1048576 < (List.replicate size (0 : UInt8)).length + (List.replicate n (0 : UInt8)).length then _ else _) = _
  rw [if_pos (by simp; omega)]
def nm (i : Nat) : List UInt8 := [98, UInt8.ofNat (97 + i % 26), UInt8.ofNat (97 + i / 26)]
theorem nm_inj {i j : Nat} (hi : i < 80) (hj : j < 80) (h : nm i = nm j) : i = j := by
  simp only [nm, List.cons.injEq, and_true, true_and] at h
  have h1 := congrArg UInt8.toNat h.1
  have h2 := congrArg UInt8.toNat h.2
  rw [UInt8.toNat_ofNat_of_lt' (by show _ < 256; omega), UInt8.toNat_ofNat_of_lt' (by show _ < 256; omega)] at h1 h2
  omega
/-- so many files, whose names are a, or of the first so many. -/
structure Q (i : Nat) (there : Nat) (t : St) : Prop where
  left : t.left = -1
  len : t.l.length = there
  few : there ≤ 64
  acts : t.acts ≤ 100 + i
  names : ∀ e ∈ t.l, e.name = [97] ∨ ∃ j, j < i ∧ e.name = nm j
theorem mem_insE (f x : Ent) : ∀ l : List Ent, x ∈ insE f l ↔ x = f ∨ x ∈ l
  | [] => by simp [insE]
  | g :: r => by
    show x ∈ (if f.name < g.name then f :: g :: r else g :: insE f r) ↔ _
    split
    · simp
    · simp [mem_insE f x r]; constructor
      · rintro (h | h | h) <;> simp [h]
      · rintro (h | h | h) <;> simp [h]
theorem length_insE (f : Ent) : ∀ l : List Ent, (insE f l).length = l.length + 1
  | [] => rfl
  | g :: r => by
    show (if f.name < g.name then f :: g :: r else g :: insE f r).length = _
    split
    · rfl
    · simp [length_insE f r]
theorem lookE_none {n : List UInt8} {l : List Ent} (h : ∀ f ∈ l, f.name ≠ n) : lookE n l = none := by
  unfold lookE
  rw [List.find?_eq_none]
  intro f hf
  simp [h f hf]
theorem Q.fresh {i there : Nat} {t : St} (h : Q i there t) (hi : i < 80) : ∀ f ∈ t.l, f.name ≠ nm i := by
  intro f hf e
  rcases h.names f hf with h1 | ⟨j, hj, h1⟩
  · rw [h1] at e; simp [nm] at e
  · rw [h1] at e; have := nm_inj (by omega) hi e; omega
theorem Q.yes {i there : Nat} {t : St} (h : Q i there t) (hi : i < 80) (ht : there < 64) : ∃ t', t.append (nm i) [] = (0, t') ∧ Q (i + 1) (there + 1) t' := by
  have hl := lookE_none (h.fresh hi)
  refine ⟨St.done { t with l := putE ⟨nm i, [], 0⟩ t.l }, ?_, ?_⟩
  · unfold St.append
    rw [if_neg (by rw [h.left]; decide), if_neg (by simp [mayB, nm]), hl]
    simp only
    rw [if_neg (by simp), if_neg (by have := h.len; omega)]
  · refine ⟨?_, ?_, by omega, ?_, ?_⟩
    · show (if 0 < t.left then t.left - 1 else t.left) = -1
      rw [h.left]; rfl
    · show (putE ⟨nm i, [], 0⟩ t.l).length = _
      unfold putE
      rw [length_insE, delE_of_not (h.fresh hi), h.len]
    · show t.acts + 1 ≤ _
      have := h.acts; omega
    · intro e he
      have he' : e ∈ putE ⟨nm i, [], 0⟩ t.l := he
      unfold putE at he'
      rw [delE_of_not (h.fresh hi)] at he'
      rcases (mem_insE _ _ _).1 he' with rfl | he'
      · exact .inr ⟨i, by omega, rfl⟩
      · rcases h.names e he' with h1 | ⟨j, hj, h1⟩
        · exact .inl h1
        · exact .inr ⟨j, by omega, h1⟩
theorem Q.no {i there : Nat} {t : St} (h : Q i there t) (hi : i < 80) (ht : 64 ≤ there) : t.append (nm i) [] = (4, t) ∧ Q (i + 1) there t := by
  have hl := lookE_none (h.fresh hi)
  refine ⟨?_, h.left, h.len, h.few, by have := h.acts; omega, fun e he => ?_⟩
  · unfold St.append
    rw [if_neg (by rw [h.left]; decide), if_neg (by simp [mayB, nm]), hl]
    simp only
    rw [if_neg (by simp), if_pos (by have := h.len; omega)]
  · rcases h.names e he with h1 | ⟨j, hj, h1⟩
    · exact .inl h1
    · exact .inr ⟨j, by omega, h1⟩
theorem F_Q (size acts : Nat) (ha : acts ≤ 100) : Q 0 (F size acts).l.length (F size acts) := by
  refine ⟨rfl, rfl, ?_, by show acts ≤ _; omega, fun e he => .inl ?_⟩
  · unfold F; simp only; split <;> simp
  · unfold F at he
    simp only at he
    split at he
    · cases he
    · simp at he; rw [he]
end filesLong
end Go.Proofs.Ytinnegkkfaaceaa
