import Derived.Test.YtjhodmpgggaknaaGreatDoorZGE
/- Plain: what putting a tree's nodes behind others makes, if there may be too many. -/
namespace Go.Proofs.YtjhodmpgggaknaaGreatDoor

def addN (ns : List Nd) (x : Nd) : List Nd := if ns.length = 31 then ns else ns ++ [x]
def addF (ns : List Nd) (fl : Bool) : Bool := if ns.length = 31 then true else fl
def addR (ns : List Nd) : Int := if ns.length = 31 then 0 else (ns.length : Int)
/-- nodes, whether there were too many, the root's number. -/
abbrev St3 := List Nd × Bool × Int
def add3 (s : St3) (x : Nd) : St3 := (addN s.1 x, addF s.1 s.2.1, addR s.1)
def addT : St3 → Tree → St3
  | s, .leaf c => add3 s (cmpNd c)
  | s, .bin o l r => add3 (addT (addT s l) r) (binNd o (addT s l).2.2 (addT (addT s l) r).2.2)
  | s, .neg t => add3 (addT s t) (negNd (addT s t).2.2)
theorem add3_fits {s : St3} {x : Nd} (h : s.1.length < 31) : add3 s x = (s.1 ++ [x], s.2.1, (s.1.length : Int)) := by
  unfold add3 addN addF addR
  rw [if_neg (by omega), if_neg (by omega), if_neg (by omega)]
/-- there is room. -/
theorem addT_fits : ∀ (t : Tree) (s : St3), s.1.length + t.size ≤ 31 → addT s t = (s.1 ++ flat s.1.length t, s.2.1, ((s.1.length + t.size : Nat) : Int) - 1)
  | .leaf c, s, h => by
    rw [Tree.size] at h
    rw [addT, add3_fits (by omega)]
    simp [flat, Tree.size]
  | .bin o l r, s, h => by
    rw [Tree.size] at h
    have pl := l.pos
    have pr := r.pos
    have hl := addT_fits l s (by omega)
    have hr := addT_fits r (addT s l) (by rw [hl]; simp [flat_len]; omega)
    rw [addT, add3_fits (by rw [hr, hl]; simp [flat_len]; omega), hr, hl]
    simp only [List.length_append, flat_len, flat, Tree.size]
    refine Prod.ext ?_ (Prod.ext rfl ?_)
    · simp [List.append_assoc]
    · simp only []
      omega
  | .neg t, s, h => by
    rw [Tree.size] at h
    have ht := addT_fits t s (by omega)
    rw [addT, add3_fits (by rw [ht]; simp [flat_len]; omega), ht]
    simp only [List.length_append, flat_len, flat, Tree.size]
    refine Prod.ext ?_ (Prod.ext rfl ?_)
    · simp [List.append_assoc]
    · simp only []
      omega
theorem add3_full {s : St3} {x : Nd} (h : s.2.1 = true) : (add3 s x).2.1 = true := by
  unfold add3 addF
  split
  · rfl
  · exact h
theorem addT_flag : ∀ (t : Tree) {s : St3}, s.2.1 = true → (addT s t).2.1 = true
  | .leaf _, _, h => add3_full h
  | .bin _ l r, _, h => add3_full (addT_flag r (addT_flag l h))
  | .neg t, _, h => add3_full (addT_flag t h)
/-- there is none. -/
theorem addT_over : ∀ (t : Tree) (s : St3), s.1.length ≤ 31 → 31 < s.1.length + t.size → (addT s t).2.1 = true
  | .leaf c, s, h0, h => by
    rw [Tree.size] at h
    rw [addT]
    unfold add3 addF
    rw [if_pos (by omega)]
  | .bin o l r, s, h0, h => by
    rw [Tree.size] at h
    by_cases h1 : 31 < s.1.length + l.size
    · exact add3_full (addT_flag r (addT_over l s h0 h1))
    · have hl := addT_fits l s (by omega)
      have e1 : (addT s l).1.length = s.1.length + l.size := by rw [hl]; simp [flat_len]
      by_cases h2 : 31 < (addT s l).1.length + r.size
      · exact add3_full (addT_over r _ (by omega) h2)
      · have hr := addT_fits r (addT s l) (by omega)
        have e2 : (addT (addT s l) r).1.length = s.1.length + l.size + r.size := by rw [hr]; simp [flat_len, e1]
        rw [addT]
        unfold add3 addF
        rw [if_pos (by omega)]
  | .neg t, s, h0, h => by
    rw [Tree.size] at h
    by_cases h1 : 31 < s.1.length + t.size
    · exact add3_full (addT_over t s h0 h1)
    · have ht := addT_fits t s (by omega)
      have e1 : (addT s t).1.length = s.1.length + t.size := by rw [ht]; simp [flat_len]
      rw [addT]
      unfold add3 addF
      rw [if_pos (by omega)]
end Go.Proofs.YtjhodmpgggaknaaGreatDoor
