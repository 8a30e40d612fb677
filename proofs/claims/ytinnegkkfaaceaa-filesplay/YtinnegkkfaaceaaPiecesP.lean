/- Plain mathematics of FilesPieces; append and the slice that it makes, as the walk wants it. -/
import Derived.Test.YtinnegkkfaaceaaOpen
import Derived.Test.YtinnegkkfaaceaaEndsP
namespace Go.Proofs.Ytinnegkkfaaceaa
open Go.RowKit

theorem wpList_append_run {P : Program} (w : World) {ops : Array Oper} {rest : List Oper} {o : Oper} {a : Act} {Q : Exit → Act → World → Prop} (hgd : o.guard = none) (s x : Operand) (t : TypeId)
    (ho : o.op = .call { callee := .builtin .append, args := #[s, x], argTypes := #[t, t] }) (v v2 v' : Value) (w' : World) (hs : a.eval s = v) (hx : a.eval x = v2) (hrun : ∀ ty, (Builtin.append_ #[t, t] ty #[v, v2]).run P w = .ok v' w')
    (h : wpList P ops Q rest (a.put o.dst v') w') : wpList P ops Q (o :: rest) a w := by
  refine wpList_plain hgd fun K hK => ?_
  unfold Oper.wp execOp
  simp only [ho, resolve, invoke, builtin, Sem.run_bind, Sem.run_pure, Result.andThen_ok, List.map_toArray, List.map_cons, List.map_nil, hs, hx, hrun]
  exact hK _ _ h
theorem IsB.take {w : World} {a : Option Addr} {n c : Nat} {bs : List UInt8} (h : IsB w (.slice a n c) bs) (k : Nat) (hk : k ≤ bs.length) : IsB w (.slice a k c) (bs.take k) := by
  obtain ⟨h1, a', c', e, h2⟩ := h
  cases e
  have hl : (bs.take k).length = k := by simp; omega
  refine ⟨by omega, a, c, by rw [hl], ?_⟩
  rcases h2 with rfl | ⟨b, off, ha, h2⟩
  · left; simp
  · by_cases h0 : k = 0
    · left; simp [h0]
    · right
      refine ⟨b, off, ha, fun i hi => ?_⟩
      rw [hl] at hi
      rw [h2 i (by omega)]
      simp [List.getD, List.getElem?_take_of_lt hi]
theorem mod_var (a : Int) (m : Nat) (hm2 : m ≤ 100000000) : ∃ n : Nat, n ≤ m ∧ wrap64 ((IntKind.u64.wrap a).tmod ((m : Int) + 1)) = (n : Int) := by
  obtain ⟨n, h1, h2⟩ := mod_small a (m + 1) (Nat.succ_pos m) (by omega)
  exact ⟨n, by omega, h2⟩
namespace filesPieces
def flat (l : List (List UInt8)) (k : Nat) : List UInt8 := (l.take k).flatten
def Z (l : List (List UInt8)) (k : Nat) : St := ⟨if k = 0 then [] else [⟨[97], flat l k, 0⟩], k, -1⟩
theorem flat_succ (l : List (List UInt8)) (k : Nat) (hk : k < l.length) : flat l (k + 1) = flat l k ++ l.getD k [] := by
  unfold flat
  rw [List.take_succ_eq_append_getElem hk, List.flatten_append]
  simp [List.getD, hk]
theorem flat_all (l : List (List UInt8)) : flat l l.length = l.flatten := by
  unfold flat; rw [List.take_length]
theorem flat_le (l : List (List UInt8)) (k : Nat) : (flat l k).length ≤ l.flatten.length := by
  unfold flat
  have := congrArg List.length (congrArg List.flatten (List.take_append_drop k l))
  rw [List.flatten_append, List.length_append] at this
  omega
theorem app (l : List (List UInt8)) (k : Nat) (hk : k < l.length) (h : l.flatten.length ≤ 20000) : (Z l k).append [97] (l.getD k []) = (0, Z l (k + 1)) := by
  have h1 := flat_le l (k + 1)
  rw [flat_succ l k hk, List.length_append] at h1
  unfold St.append
  rw [if_neg (show ¬ (Z l k).left = 0 by show ¬ (-1 : Int) = 0; decide), if_neg (show ¬ mayB [97] = false by decide)]
  have e2 : Z l (k + 1) = ⟨[⟨[97], flat l k ++ l.getD k [], 0⟩], k + 1, -1⟩ := by unfold Z; rw [if_neg (by omega), flat_succ l k hk]
  by_cases h0 : k = 0
  · subst h0
    show (if 1048576 < (l.getD 0 []).length then _ else (0, (⟨[⟨[97], l.getD 0 [], 0⟩], 0 + 1, -1⟩ : St))) = _
    rw [if_neg (by omega), e2]
    simp [flat]
  · have e : Z l k = ⟨[⟨[97], flat l k, 0⟩], k, -1⟩ := by unfold Z; rw [if_neg h0]
    rw [e, e2]
    show (if 1048576 < (flat l k).length + (l.getD k []).length then _ else (0, (⟨[⟨[97], flat l k ++ l.getD k [], 0⟩], k + 1, -1⟩ : St))) = _
    rw [if_neg (by omega)]
/-- one file of that name. -/
def O (n : List UInt8) (bs : List UInt8) (k : Nat) : St := ⟨[⟨n, bs, 0⟩], k, -1⟩
theorem Z_O (l : List (List UInt8)) (h : l ≠ []) : Z l l.length = O [97] l.flatten l.length := by
  have := List.length_pos_iff.2 h
  unfold Z O; rw [if_neg (by omega), flat_all]
theorem read_O (n bs : List UInt8) (k : Nat) : (O n bs k).read n = (bs, 0) := by
  unfold St.read
  rw [if_neg (show ¬ (O n bs k).left = 0 by show ¬ (-1 : Int) = 0; decide)]
  simp [O, lookE]
theorem read_not (k : Nat) (bs : List UInt8) : (O [98] bs k).read [97] = ([], 31) := rfl
theorem trunc_O (bs : List UInt8) (k c : Nat) (hc : c ≤ bs.length) : (O [97] bs k).truncate [97] (c : Int) = (0, O [97] (bs.take c) (k + 1)) := by
  unfold St.truncate St.with
  rw [if_neg (show ¬ (O [97] bs k).left = 0 by show ¬ (-1 : Int) = 0; decide)]
  show (if (c : Int) < 0 ∨ (bs.length : Int) < c then _ else (0, (⟨[⟨[97], bs.take (c : Int).toNat, min 0 (c : Int).toNat⟩], k + 1, -1⟩ : St))) = _
  rw [if_neg (by omega)]
  simp [O]
theorem rename_O (bs : List UInt8) (k : Nat) : (O [97] bs k).rename [97] [98] = (0, O [98] bs (k + 1)) := rfl
theorem trunc_none (l : List (List UInt8)) : (Z l 0).truncate [97] 0 = (31, Z l 0) := rfl
end filesPieces
end Go.Proofs.Ytinnegkkfaaceaa
