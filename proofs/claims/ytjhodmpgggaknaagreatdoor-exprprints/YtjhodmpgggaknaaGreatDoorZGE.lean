/- Joined: E1 E2 E3 E4. -/
import Derived.Test.YtjhodmpgggaknaaGreatDoorZGA
import Derived.Test.YtjhodmpgggaknaaGreatDoorZGB
import Derived.Test.YtjhodmpgggaknaaGreatDoorZGD
/- Plain mathematics of expr: conditions as trees, their nodes, how they are read off tokens. No program in it. -/
namespace Go.Proofs.YtjhodmpgggaknaaGreatDoor

abbrev Key := Nat × Tx
/-- a comparison. -/
structure Cm where
  agg : UInt8
  sel : List Mat.Mt
  win : Int
  cmp : UInt8
  val : Int
inductive Tree where
  | leaf (c : Cm) : Tree
  | bin (o : Bool) (l r : Tree) : Tree
  | neg (t : Tree) : Tree
def Tree.size : Tree → Nat
  | .leaf _ => 1
  | .bin _ l r => l.size + r.size + 1
  | .neg t => t.size + 1
theorem Tree.pos : ∀ t : Tree, 0 < t.size
  | .leaf _ => by simp [Tree.size]
  | .bin _ l r => by simp [Tree.size]
  | .neg t => by simp [Tree.size]
/-- a node. -/
structure Nd where
  kind : UInt8
  agg : UInt8
  sel : List Mat.Mt
  win : Int
  cmp : UInt8
  val : Int
  left : Int
  right : Int
def Nd.same (x y : Nd) : Bool := x.kind == y.kind && x.agg == y.agg && x.sel == y.sel && x.win == y.win && x.cmp == y.cmp && x.val == y.val && x.left == y.left && x.right == y.right
theorem Nd.same_iff {x y : Nd} : x.same y = true ↔ x = y := by
  obtain ⟨a1, a2, a3, a4, a5, a6, a7, a8⟩ := x
  obtain ⟨b1, b2, b3, b4, b5, b6, b7, b8⟩ := y
  simp [Nd.same, and_assoc]
def sameN : List Nd → List Nd → Bool
  | [], [] => true
  | x :: l, y :: m => x.same y && sameN l m
  | _, _ => false
theorem sameN_iff : ∀ {l m : List Nd}, sameN l m = true ↔ l = m
  | [], [] => by simp [sameN]
  | x :: l, y :: m => by
    rw [sameN, Bool.and_eq_true, Nd.same_iff, sameN_iff]
    simp
  | [], y :: m => by simp [sameN]
  | x :: l, [] => by simp [sameN]
theorem sameN_refl (l : List Nd) : sameN l l = true := sameN_iff.2 rfl
theorem sameN_ne {l m : List Nd} (h : l ≠ m) : sameN l m = false := by
  cases h2 : sameN l m
  · rfl
  · exact absurd (sameN_iff.1 h2) h
def cmpNd (c : Cm) : Nd := ⟨0, c.agg, c.sel, c.win, c.cmp, c.val, 0, 0⟩
def opK (o : Bool) : UInt8 := if o then 2 else 1
def binNd (o : Bool) (l r : Int) : Nd := ⟨opK o, 0, [], 0, 0, 0, l, r⟩
def negNd (l : Int) : Nd := ⟨3, 0, [], 0, 0, 0, l, 0⟩
/-- a tree's nodes, if so many stand ahead of them. -/
def flat : Nat → Tree → List Nd
  | _, .leaf c => [cmpNd c]
  | b, .bin o l r => flat b l ++ flat (b + l.size) r ++ [binNd o ((b + l.size : Nat) - 1 : Int) ((b + l.size + r.size : Nat) - 1 : Int)]
  | b, .neg t => flat b t ++ [negNd ((b + t.size : Nat) - 1 : Int)]
theorem flat_len : ∀ (t : Tree) (b : Nat), (flat b t).length = t.size
  | .leaf _, _ => rfl
  | .bin o l r, b => by rw [flat, List.length_append, List.length_append, flat_len l, flat_len r, Tree.size]; rfl
  | .neg t, b => by rw [flat, List.length_append, flat_len t, Tree.size]; rfl

/- tokens. -/
def kOr : Key := (1, [111, 114])
def kAnd : Key := (1, [97, 110, 100])
def kNot : Key := (1, [110, 111, 116])
def kOpen : Key := (4, [40])
def kEnd : Key := (4, [41])
def kBrace : Key := (4, [123])
def kBraceE : Key := (4, [125])
def kSq : Key := (4, [91])
def kSqE : Key := (4, [93])
def kComma : Key := (4, [44])
def kMinus : Key := (4, [45])
def opKey (o : Bool) : Key := if o then kOr else kAnd
def aggS (n : Nat) : Tx := match n with
  | 0 => [99, 111, 117, 110, 116]
  | 1 => [115, 117, 109]
  | 2 => [109, 105, 110]
  | 3 => [109, 97, 120]
  | 4 => [109, 101, 97, 110]
  | 5 => [108, 97, 115, 116]
  | _ => []
def cmpS (n : Nat) : Tx := match n with
  | 0 => [60]
  | 1 => [60, 61]
  | 2 => [62]
  | 3 => [62, 61]
  | 4 => [61, 61]
  | 5 => [33, 61]
  | _ => []
def aggOf (s : Tx) : Option UInt8 := if s = aggS 0 then some 0 else if s = aggS 1 then some 1 else if s = aggS 2 then some 2 else if s = aggS 3 then some 3 else if s = aggS 4 then some 4 else if s = aggS 5 then some 5 else none
def cmpOf (s : Tx) : Option UInt8 := if s = cmpS 0 then some 0 else if s = cmpS 1 then some 1 else if s = cmpS 2 then some 2 else if s = cmpS 3 then some 3 else if s = cmpS 4 then some 4 else if s = cmpS 5 then some 5 else none
def opOf (s : Tx) : Option UInt8 := if s = [61] then some 0 else if s = [33, 61] then some 1 else if s = [94, 61] then some 2 else none
theorem aggOf_inv {s : Tx} {a : UInt8} (h : aggOf s = some a) : a.toNat ≤ 5 ∧ s = aggS a.toNat := by
  unfold aggOf at h
  repeat' (split at h)
  all_goals first | (cases h; rename_i e; exact ⟨by decide, e⟩) | cases h
theorem cmpOf_inv {s : Tx} {a : UInt8} (h : cmpOf s = some a) : a.toNat ≤ 5 ∧ s = cmpS a.toNat := by
  unfold cmpOf at h
  repeat' (split at h)
  all_goals first | (cases h; rename_i e; exact ⟨by decide, e⟩) | cases h
theorem u8_le (a : UInt8) (n : Nat) (hn : n ≤ 5) (h : a.toNat ≤ n) : a = 0 ∨ a = 1 ∨ a = 2 ∨ a = 3 ∨ a = 4 ∨ a = 5 := by
  have : a.toNat = 0 ∨ a.toNat = 1 ∨ a.toNat = 2 ∨ a.toNat = 3 ∨ a.toNat = 4 ∨ a.toNat = 5 := by omega
  rcases this with h | h | h | h | h | h
  · exact .inl (UInt8.toNat_inj.1 h)
  · exact .inr (.inl (UInt8.toNat_inj.1 h))
  · exact .inr (.inr (.inl (UInt8.toNat_inj.1 h)))
  · exact .inr (.inr (.inr (.inl (UInt8.toNat_inj.1 h))))
  · exact .inr (.inr (.inr (.inr (.inl (UInt8.toNat_inj.1 h)))))
  · exact .inr (.inr (.inr (.inr (.inr (UInt8.toNat_inj.1 h)))))
theorem aggOf_back {a : UInt8} (h : a.toNat ≤ 5) : aggOf (aggS a.toNat) = some a := by
  rcases u8_le a 5 (by omega) h with rfl | rfl | rfl | rfl | rfl | rfl <;> decide
theorem cmpOf_back {a : UInt8} (h : a.toNat ≤ 5) : cmpOf (cmpS a.toNat) = some a := by
  rcases u8_le a 5 (by omega) h with rfl | rfl | rfl | rfl | rfl | rfl <;> decide
theorem opOf_back {a : UInt8} (h : a.toNat ≤ 2) : opOf (Mat.opS a) = some a := by
  rcases u8_le a 5 (by omega) (by omega) with rfl | rfl | rfl | rfl | rfl | rfl <;> first | decide | (exfalso; revert h; decide)
/-- a window: digits alone, from 1 to 1000. -/
def digsB (s : Tx) : Bool := s.all dig
def numOf (s : Tx) : Nat := s.foldl (fun n c => n * 10 + (c.toNat - 48)) 0
def winOf (s : Tx) : Option Nat := if digsB s && decide (1 ≤ numOf s) && decide (numOf s ≤ 1000) then some (numOf s) else none
def valOf (s : Tx) : Option Int := if Num.parseE s = 0 then some (Num.parseN s) else none
/-- what stands in braces, behind the first one. -/
def moreM : List Mat.Mt → List Key → Option (List Mat.Mt × List Key)
  | acc, (k1, n) :: (k2, o) :: (k3, v) :: y :: r => if k1 = 1 ∧ k2 = 4 ∧ k3 = 3 then (match opOf o with
    | none => none
    | some p => if y = kBraceE then some (acc ++ [(n, p, v)], r) else if y = kComma then moreM (acc ++ [(n, p, v)]) r else none) else none
  | _, _ => none
def selP : List Key → Option (List Mat.Mt × List Key)
  | [] => none
  | x :: r => if x = kBraceE then some ([], r) else moreM [] (x :: r)
/-- a value, from its sign on. -/
def numM (sg : Tx) : List Key → Option (Int × List Key)
  | [] => none
  | x :: r => if x.1 = 2 then (valOf (sg ++ x.2)).map (fun v => (v, r)) else none
def numP : List Key → Option (Int × List Key)
  | [] => none
  | x :: r => if x = kMinus then numM [45] r else numM [] (x :: r)
/-- what stands behind a select. -/
def tailP (a : UInt8) (sel : List Mat.Mt) : List Key → Option (Cm × List Key)
  | x1 :: (k2, d) :: x3 :: x4 :: (k5, c) :: r => if x1 = kSq ∧ k2 = 2 ∧ x3 = kSqE ∧ x4 = kEnd ∧ k5 = 4 then (match winOf d with
    | none => none
    | some n => match cmpOf c with
      | none => none
      | some p => (numP r).map (fun q => (⟨a, sel, (n : Int), p, q.1⟩, q.2))) else none
  | _ => none
def cmpP : List Key → Option (Cm × List Key)
  | (k1, s) :: x2 :: x3 :: r => if k1 = 1 ∧ x2 = kOpen ∧ x3 = kBrace then (match aggOf s with
    | none => none
    | some a => match selP r with
      | none => none
      | some (sel, r2) => if Mat.mayM sel then tailP a sel r2 else none) else none
  | _ => none
/-- where one stands. -/
inductive Lev where
  | or : Lev
  | and : Lev
  | one : Lev
  | more (o : Bool) (t : Tree) : Lev
def partOf (o : Bool) : Lev := if o then .and else .one
def moreF (g : Lev → List Key → Option (Tree × List Key)) (o : Bool) (t : Tree) : List Key → Option (Tree × List Key)
  | [] => some (t, [])
  | x :: r => if x = opKey o then (match g (partOf o) r with
    | none => none
    | some (u, r2) => g (.more o (.bin o t u)) r2) else some (t, x :: r)
def closeF : Option (Tree × List Key) → Option (Tree × List Key)
  | some (t, y :: r2) => if y = kEnd then some (t, r2) else none
  | _ => none
def oneF (g : Lev → List Key → Option (Tree × List Key)) : List Key → Option (Tree × List Key)
  | [] => none
  | x :: r => if x = kNot then (g .one r).map (fun p => (.neg p.1, p.2)) else if x = kOpen then closeF (g .or r) else (cmpP (x :: r)).map (fun p => (.leaf p.1, p.2))
theorem closeF_inv {q : Option (Tree × List Key)} {t : Tree} {r : List Key} (h : closeF q = some (t, r)) : q = some (t, kEnd :: r) := by
  match q, h with
  | some (u, y :: r2), h =>
    rw [closeF] at h
    split at h
    · rename_i e
      cases h
      rw [e]
    · cases h
def PF : Nat → Lev → List Key → Option (Tree × List Key)
  | 0, _, _ => none
  | f + 1, .or, ts => match PF f .and ts with
    | none => none
    | some (t, r) => PF f (.more true t) r
  | f + 1, .and, ts => match PF f .one ts with
    | none => none
    | some (t, r) => PF f (.more false t) r
  | f + 1, .more o t, ts => moreF (PF f) o t ts
  | f + 1, .one, ts => oneF (PF f) ts
def rank : Lev → Nat
  | .or => 3
  | .and => 2
  | .one => 1
  | .more _ _ => 1
def pE (v : Lev) (ts : List Key) : Option (Tree × List Key) := PF (3 * ts.length + rank v) v ts
def Lev.tree : Lev → Bool
  | .more _ _ => true
  | _ => false
theorem moreM_short : ∀ (n : Nat) (ts : List Key) (acc m : List Mat.Mt) (r : List Key), ts.length ≤ n → moreM acc ts = some (m, r) → r.length + 3 < ts.length + 1
  | n, (k1, nm) :: (k2, o) :: (k3, v) :: y :: r0, acc, m, r, hn, h => by
    rw [moreM] at h
    split at h
    · split at h
      · cases h
      · split at h
        · cases h; simp
        · split at h
          · cases n with
            | zero => simp at hn
            | succ n =>
              have := moreM_short n r0 _ _ _ (by simp at hn; omega) h
              simp; omega
          · cases h
    · cases h
  | _, [], _, _, _, _, h => by simp [moreM] at h
  | _, [_], _, _, _, _, h => by simp [moreM] at h
  | _, [_, _], _, _, _, _, h => by simp [moreM] at h
  | _, [_, _, _], _, _, _, _, h => by simp [moreM] at h
theorem selP_short {ts : List Key} {m : List Mat.Mt} {r : List Key} (h : selP ts = some (m, r)) : r.length < ts.length := by
  cases ts with
  | nil => cases h
  | cons x t =>
    rw [selP] at h
    split at h
    · cases h; simp
    · have := moreM_short _ _ _ _ _ (Nat.le_refl _) h
      omega
theorem numM_short {sg : Tx} {ts : List Key} {v : Int} {r : List Key} (h : numM sg ts = some (v, r)) : r.length < ts.length := by
  cases ts with
  | nil => cases h
  | cons x t =>
    rw [numM] at h
    split at h
    · cases hv : valOf (sg ++ x.2) with
      | none => rw [hv] at h; cases h
      | some q => rw [hv] at h; cases h; simp
    · cases h
theorem numP_short {ts : List Key} {v : Int} {r : List Key} (h : numP ts = some (v, r)) : r.length < ts.length := by
  cases ts with
  | nil => cases h
  | cons x t =>
    rw [numP] at h
    split at h
    · have := numM_short h
      simp; omega
    · exact numM_short h
theorem tailP_inv {a : UInt8} {sel : List Mat.Mt} {ts : List Key} {c : Cm} {r : List Key} (h : tailP a sel ts = some (c, r)) :
    ∃ d s r0 n p v, ts = kSq :: (2, d) :: kSqE :: kEnd :: (4, s) :: r0 ∧ winOf d = some n ∧ cmpOf s = some p ∧ numP r0 = some (v, r) ∧ c = ⟨a, sel, (n : Int), p, v⟩ := by
  match ts, h with
  | x1 :: (k2, d) :: x3 :: x4 :: (k5, s) :: r0, h =>
    rw [tailP] at h
    split at h
    · rename_i hc
      obtain ⟨rfl, rfl, rfl, rfl, rfl⟩ := hc
      split at h
      · cases h
      · rename_i n hn
        split at h
        · cases h
        · rename_i p hp
          cases hq : numP r0 with
          | none => rw [hq] at h; cases h
          | some q =>
            obtain ⟨v, r1⟩ := q
            rw [hq] at h
            cases h
            exact ⟨d, s, r0, n, p, v, rfl, hn, hp, hq, rfl⟩
    · cases h
theorem cmpP_inv {ts : List Key} {c : Cm} {r : List Key} (h : cmpP ts = some (c, r)) :
    ∃ s r0 a sel r2, ts = (1, s) :: kOpen :: kBrace :: r0 ∧ aggOf s = some a ∧ selP r0 = some (sel, r2) ∧ Mat.mayM sel = true ∧ tailP a sel r2 = some (c, r) := by
  match ts, h with
  | (k1, s) :: x2 :: x3 :: r0, h =>
    rw [cmpP] at h
    split at h
    · rename_i hc
      obtain ⟨rfl, rfl, rfl⟩ := hc
      split at h
      · cases h
      · rename_i a ha
        split at h
        · cases h
        · rename_i sel r2 hs
          split at h
          · rename_i hm
            exact ⟨s, r0, a, sel, r2, rfl, ha, hs, hm, h⟩
          · cases h
    · cases h
theorem cmpP_short {ts : List Key} {c : Cm} {r : List Key} (h : cmpP ts = some (c, r)) : r.length < ts.length := by
  obtain ⟨s, r0, a, sel, r2, rfl, _, hs, _, ht⟩ := cmpP_inv h
  obtain ⟨d, s2, r1, n, p, v, rfl, _, _, hq, _⟩ := tailP_inv ht
  have h1 := selP_short hs
  have h2 := numP_short hq
  simp at *; omega
theorem PF_short : ∀ (f : Nat) (v : Lev) (ts : List Key) (t : Tree) (r : List Key), PF f v ts = some (t, r) → r.length + (if v.tree then 0 else 1) ≤ ts.length
  | 0, _, _, _, _, h => by cases h
  | f + 1, .or, ts, t, r, h => by
    rw [PF] at h
    split at h
    · cases h
    · rename_i u r1 h1
      have a1 := PF_short f _ _ _ _ h1
      have a2 := PF_short f _ _ _ _ h
      simp [Lev.tree] at *; omega
  | f + 1, .and, ts, t, r, h => by
    rw [PF] at h
    split at h
    · cases h
    · rename_i u r1 h1
      have a1 := PF_short f _ _ _ _ h1
      have a2 := PF_short f _ _ _ _ h
      simp [Lev.tree] at *; omega
  | f + 1, .more o u, ts, t, r, h => by
    rw [PF] at h
    cases ts with
    | nil => cases h; simp [Lev.tree]
    | cons x ts =>
      rw [moreF] at h
      split at h
      · split at h
        · cases h
        · rename_i u1 r1 h1
          have a1 := PF_short f _ _ _ _ h1
          have a2 := PF_short f _ _ _ _ h
          cases o <;> simp [Lev.tree, partOf] at * <;> omega
      · cases h; simp [Lev.tree]
  | f + 1, .one, ts, t, r, h => by
    rw [PF] at h
    cases ts with
    | nil => cases h
    | cons x ts =>
      rw [oneF] at h
      split at h
      · cases h1 : PF f .one ts with
        | none => rw [h1] at h; cases h
        | some q =>
          obtain ⟨u, r1⟩ := q
          have a1 := PF_short f _ _ _ _ h1
          rw [h1] at h
          cases h
          simp [Lev.tree] at *; omega
      · split at h
        · have a1 := PF_short f _ _ _ _ (closeF_inv h)
          simp [Lev.tree] at *; omega
        · cases hc : cmpP (x :: ts) with
          | none => rw [hc] at h; cases h
          | some q =>
            rw [hc] at h
            cases h
            have := cmpP_short hc
            simp [Lev.tree] at *; omega
theorem PF_fuel : ∀ (f g : Nat) (v : Lev) (ts : List Key), 3 * ts.length + rank v ≤ f → 3 * ts.length + rank v ≤ g → PF f v ts = PF g v ts
  | 0, g, v, ts, h, _ => by cases v <;> simp [rank] at h
  | f + 1, 0, v, ts, _, h => by cases v <;> simp [rank] at h
  | f + 1, g + 1, .or, ts, h1, h2 => by
    simp [rank] at h1 h2
    rw [PF, PF, PF_fuel f g .and ts (by simp [rank]; omega) (by simp [rank]; omega)]
    cases hh : PF g .and ts with
    | none => rfl
    | some q =>
      obtain ⟨t, r⟩ := q
      have := PF_short _ _ _ _ _ hh
      simp [Lev.tree] at this
      exact PF_fuel f g _ r (by simp [rank]; omega) (by simp [rank]; omega)
  | f + 1, g + 1, .and, ts, h1, h2 => by
    simp [rank] at h1 h2
    rw [PF, PF, PF_fuel f g .one ts (by simp [rank]; omega) (by simp [rank]; omega)]
    cases hh : PF g .one ts with
    | none => rfl
    | some q =>
      obtain ⟨t, r⟩ := q
      have := PF_short _ _ _ _ _ hh
      simp [Lev.tree] at this
      exact PF_fuel f g _ r (by simp [rank]; omega) (by simp [rank]; omega)
  | f + 1, g + 1, .more o t, ts, h1, h2 => by
    rw [PF, PF]
    cases ts with
    | nil => rfl
    | cons x ts =>
      simp [rank] at h1 h2
      rw [moreF, moreF]
      split
      · have e := PF_fuel f g (partOf o) ts (by cases o <;> simp [rank, partOf] <;> omega) (by cases o <;> simp [rank, partOf] <;> omega)
        rw [e]
        cases hh : PF g (partOf o) ts with
        | none => rfl
        | some q =>
          obtain ⟨u, r⟩ := q
          have := PF_short _ _ _ _ _ hh
          simp only
          exact PF_fuel f g _ r (by cases o <;> simp [rank, partOf, Lev.tree] at * <;> omega) (by cases o <;> simp [rank, partOf, Lev.tree] at * <;> omega)
      · rfl
  | f + 1, g + 1, .one, ts, h1, h2 => by
    rw [PF, PF]
    cases ts with
    | nil => rfl
    | cons x ts =>
      simp [rank] at h1 h2
      rw [oneF, oneF]
      rw [PF_fuel f g .one ts (by simp [rank]; omega) (by simp [rank]; omega), PF_fuel f g .or ts (by simp [rank]; omega) (by simp [rank]; omega)]
theorem pE_short {v : Lev} {ts : List Key} {t : Tree} {r : List Key} (h : pE v ts = some (t, r)) : r.length + (if v.tree then 0 else 1) ≤ ts.length := PF_short _ _ _ _ _ h
theorem pE_or (ts : List Key) : pE .or ts = match pE .and ts with
    | none => none
    | some (t, r) => pE (.more true t) r := by
  show PF (3 * ts.length + 2 + 1) .or ts = _
  rw [PF, PF_fuel _ (3 * ts.length + 2) .and ts (by simp [rank]) (by simp [rank])]
  show (match PF (3 * ts.length + rank .and) .and ts with | none => none | some (t, r) => PF _ (.more true t) r) = _
  cases hh : PF (3 * ts.length + rank .and) .and ts with
  | none => simp [pE, hh]
  | some q =>
    obtain ⟨t, r⟩ := q
    have := PF_short _ _ _ _ _ hh
    simp [Lev.tree] at this
    have e : pE .and ts = some (t, r) := hh
    rw [e]
    exact PF_fuel _ _ _ r (by simp [rank]; omega) (Nat.le_refl _)
theorem pE_and (ts : List Key) : pE .and ts = match pE .one ts with
    | none => none
    | some (t, r) => pE (.more false t) r := by
  show PF (3 * ts.length + 1 + 1) .and ts = _
  rw [PF]
  show (match PF (3 * ts.length + rank .one) .one ts with | none => none | some (t, r) => PF _ (.more false t) r) = _
  cases hh : PF (3 * ts.length + rank .one) .one ts with
  | none => simp [pE, hh]
  | some q =>
    obtain ⟨t, r⟩ := q
    have := PF_short _ _ _ _ _ hh
    simp [Lev.tree] at this
    have e : pE .one ts = some (t, r) := hh
    rw [e]
    exact PF_fuel _ _ _ r (by simp [rank]; omega) (Nat.le_refl _)
theorem pE_stop {o : Bool} {t : Tree} {x : Key} {r : List Key} (h : x ≠ opKey o) : pE (.more o t) (x :: r) = some (t, x :: r) := by
  show PF (3 * (x :: r).length + 0 + 1) _ _ = _
  rw [PF, moreF, if_neg h]
theorem pE_more (o : Bool) (t : Tree) (r : List Key) : pE (.more o t) (opKey o :: r) = match pE (partOf o) r with
    | none => none
    | some (u, r2) => pE (.more o (.bin o t u)) r2 := by
  show PF (3 * (opKey o :: r).length + 0 + 1) _ _ = _
  rw [PF, moreF, if_pos rfl]
  have e : PF (3 * (opKey o :: r).length) (partOf o) r = pE (partOf o) r := PF_fuel _ _ _ _ (by cases o <;> simp [rank, partOf] <;> omega) (Nat.le_refl _)
  rw [e]
  cases hh : pE (partOf o) r with
  | none => rfl
  | some q =>
    obtain ⟨u, r2⟩ := q
    have := pE_short hh
    exact PF_fuel _ _ _ _ (by cases o <;> simp [rank, partOf, Lev.tree] at * <;> omega) (Nat.le_refl _)
theorem pE_not (r : List Key) : pE .one (kNot :: r) = (pE .one r).map (fun p => (.neg p.1, p.2)) := by
  show PF (3 * (kNot :: r).length + 0 + 1) _ _ = _
  rw [PF, oneF, if_pos rfl]
  have e : PF (3 * (kNot :: r).length) .one r = pE .one r := PF_fuel _ _ _ _ (by simp [rank]; omega) (Nat.le_refl _)
  rw [e]
theorem pE_open (r : List Key) : pE .one (kOpen :: r) = closeF (pE .or r) := by
  show PF (3 * (kOpen :: r).length + 0 + 1) _ _ = _
  rw [PF, oneF, if_neg (by decide), if_pos rfl]
  have e : PF (3 * (kOpen :: r).length) .or r = pE .or r := PF_fuel _ _ _ _ (by simp [rank]; omega) (Nat.le_refl _)
  rw [e]
theorem pE_cmp {x : Key} {r : List Key} (h1 : x ≠ kNot) (h2 : x ≠ kOpen) : pE .one (x :: r) = (cmpP (x :: r)).map (fun p => (.leaf p.1, p.2)) := by
  show PF (3 * (x :: r).length + 0 + 1) _ _ = _
  rw [PF, oneF, if_neg h1, if_neg h2]

/- comparisons that may be. -/
def okC (c : Cm) : Prop := c.agg.toNat ≤ 5 ∧ c.cmp.toNat ≤ 5 ∧ Mat.mayM c.sel = true ∧ 1 ≤ c.win ∧ c.win ≤ 1000 ∧ Num.sat c.val = c.val
def okT : Tree → Prop
  | .leaf c => okC c
  | .bin _ l r => okT l ∧ okT r
  | .neg t => okT t
theorem valOf_ok {s : Tx} {v : Int} (h : valOf s = some v) : Num.sat v = v := by
  unfold valOf at h
  split at h
  · rename_i he
    cases h
    have := Num.back_len he
    exact (Num.sat_in this.1 this.2.1).symm
  · cases h
theorem numM_ok {sg : Tx} {ts : List Key} {v : Int} {r : List Key} (h : numM sg ts = some (v, r)) : Num.sat v = v := by
  cases ts with
  | nil => cases h
  | cons x t =>
    rw [numM] at h
    split at h
    · cases hv : valOf (sg ++ x.2) with
      | none => rw [hv] at h; cases h
      | some q => rw [hv] at h; cases h; exact valOf_ok hv
    · cases h
theorem numP_ok {ts : List Key} {v : Int} {r : List Key} (h : numP ts = some (v, r)) : Num.sat v = v := by
  cases ts with
  | nil => cases h
  | cons x t =>
    rw [numP] at h
    split at h
    · exact numM_ok h
    · exact numM_ok h
theorem winOf_ok {s : Tx} {n : Nat} (h : winOf s = some n) : 1 ≤ n ∧ n ≤ 1000 := by
  unfold winOf at h
  split at h
  · rename_i hc
    cases h
    simp at hc
    exact ⟨hc.1.2, hc.2⟩
  · cases h
theorem cmpP_ok {ts : List Key} {c : Cm} {r : List Key} (h : cmpP ts = some (c, r)) : okC c := by
  obtain ⟨s, r0, a, sel, r2, rfl, ha, hs, hm, ht⟩ := cmpP_inv h
  obtain ⟨d, s2, r1, n, p, v, rfl, hw, hp, hq, rfl⟩ := tailP_inv ht
  have := winOf_ok hw
  exact ⟨(aggOf_inv ha).1, (cmpOf_inv hp).1, hm, by simp only []; omega, by simp only []; omega, numP_ok hq⟩
def okL : Lev → Prop
  | .more _ t => okT t
  | _ => True
theorem PF_ok : ∀ (f : Nat) (v : Lev) (ts : List Key) (t : Tree) (r : List Key), okL v → PF f v ts = some (t, r) → okT t
  | 0, _, _, _, _, _, h => by cases h
  | f + 1, .or, ts, t, r, _, h => by
    rw [PF] at h
    split at h
    · cases h
    · rename_i u r1 h1
      exact PF_ok f _ _ _ _ (show okL (.more true u) from PF_ok f .and _ _ _ trivial h1) h
  | f + 1, .and, ts, t, r, _, h => by
    rw [PF] at h
    split at h
    · cases h
    · rename_i u r1 h1
      exact PF_ok f _ _ _ _ (show okL (.more false u) from PF_ok f .one _ _ _ trivial h1) h
  | f + 1, .more o u, ts, t, r, hu, h => by
    rw [PF] at h
    cases ts with
    | nil => cases h; exact hu
    | cons x ts =>
      rw [moreF] at h
      split at h
      · split at h
        · cases h
        · rename_i u1 r1 h1
          exact PF_ok f _ _ _ _ (show okL (.more o (.bin o u u1)) from ⟨hu, PF_ok f _ _ _ _ (by cases o <;> exact trivial) h1⟩) h
      · cases h; exact hu
  | f + 1, .one, ts, t, r, _, h => by
    rw [PF] at h
    cases ts with
    | nil => cases h
    | cons x ts =>
      rw [oneF] at h
      split at h
      · cases h1 : PF f .one ts with
        | none => rw [h1] at h; cases h
        | some q =>
          obtain ⟨u, r1⟩ := q
          rw [h1] at h
          cases h
          have := PF_ok f .one _ _ _ trivial h1
          exact this
      · split at h
        · exact PF_ok f .or _ _ _ trivial (closeF_inv h)
        · cases hc : cmpP (x :: ts) with
          | none => rw [hc] at h; cases h
          | some q =>
            rw [hc] at h
            cases h
            exact cmpP_ok hc
theorem pE_ok {v : Lev} {ts : List Key} {t : Tree} {r : List Key} (hv : okL v) (h : pE v ts = some (t, r)) : okT t := PF_ok _ _ _ _ _ hv h
end Go.Proofs.YtjhodmpgggaknaaGreatDoor
/- Plain mathematics of expr: the tokens that a condition is written with are read as that condition; what stands behind one changes nothing of it. No program in it. -/
namespace Go.Proofs.YtjhodmpgggaknaaGreatDoor

def lvl (o : Bool) : Nat := if o then 0 else 1
def itemK (x : Mat.Mt) : List Key := [(1, x.1), (4, Mat.opS x.2.1), (3, x.2.2)]
def joinK : List Mat.Mt → List Key
  | [] => []
  | [x] => itemK x
  | x :: y :: l => itemK x ++ kComma :: joinK (y :: l)
def numK (v : Int) : List Key := if Num.sat v < 0 then [kMinus, (2, Num.digitsOf (-Num.sat v))] else [(2, Num.digitsOf (Num.sat v))]
def cmpKs (c : Cm) : List Key := (1, aggS c.agg.toNat) :: kOpen :: kBrace :: (joinK c.sel ++ kBraceE :: kSq :: (2, Lib.decDigits c.win.toNat) :: kSqE :: kEnd :: (4, cmpS c.cmp.toNat) :: numK c.val)
def pks : Nat → Tree → List Key
  | _, .leaf c => cmpKs c
  | n, .bin o l r => if lvl o < n then kOpen :: (pks (lvl o) l ++ opKey o :: pks (lvl o + 1) r ++ [kEnd]) else pks (lvl o) l ++ opKey o :: pks (lvl o + 1) r
  | _, .neg t => kNot :: pks 2 t
theorem moreM_back : ∀ (l : List Mat.Mt) (acc : List Mat.Mt) (r : List Key), l ≠ [] → (∀ x ∈ l, x.2.1.toNat ≤ 2) → moreM acc (joinK l ++ kBraceE :: r) = some (acc ++ l, r)
  | [], _, _, h, _ => absurd rfl h
  | [x], acc, r, _, ho => by
    show moreM acc ((1, x.1) :: (4, Mat.opS x.2.1) :: (3, x.2.2) :: kBraceE :: r) = _
    rw [moreM, if_pos ⟨rfl, rfl, rfl⟩, opOf_back (ho x (by simp))]
    simp
  | x :: y :: l, acc, r, _, ho => by
    show moreM acc ((1, x.1) :: (4, Mat.opS x.2.1) :: (3, x.2.2) :: kComma :: (joinK (y :: l) ++ kBraceE :: r)) = _
    rw [moreM, if_pos ⟨rfl, rfl, rfl⟩, opOf_back (ho x (by simp))]
    simp only [if_true]
    rw [if_neg (by decide), moreM_back (y :: l) _ r (by simp) (fun z hz => ho z (by simp at hz ⊢; exact .inr hz))]
    simp
theorem selP_back {l : List Mat.Mt} (r : List Key) (ho : ∀ x ∈ l, x.2.1.toNat ≤ 2) : selP (joinK l ++ kBraceE :: r) = some (l, r) := by
  cases l with
  | nil => rfl
  | cons x l =>
    have h := moreM_back (x :: l) [] r (by simp) ho
    have e : ∃ y t, joinK (x :: l) ++ kBraceE :: r = y :: t ∧ y ≠ kBraceE := by
      cases l with
      | nil => exact ⟨(1, x.1), _, rfl, by simp [kBraceE]⟩
      | cons y l => exact ⟨(1, x.1), _, rfl, by simp [kBraceE]⟩
    obtain ⟨y, t, e, hy⟩ := e
    rw [e] at h ⊢
    rw [selP, if_neg hy, h]
    simp
theorem numOf_val : ∀ (s : Tx) (n : Nat), Num.Dig s → ((s.foldl (fun n c => n * 10 + (c.toNat - 48)) n : Nat) : Int) = Num.val n s
  | [], n, _ => rfl
  | c :: s, n, h => by
    have h1 := h.head
    rw [List.foldl_cons, numOf_val s _ h.tail, Num.val_cons]
    congr 1
    omega
theorem dig_iff {c : UInt8} : dig c = true ↔ 48 ≤ c.toNat ∧ c.toNat ≤ 57 := by
  unfold dig
  rw [Bool.and_eq_true, decide_eq_true_iff, decide_eq_true_iff]
theorem digsB_iff {s : Tx} : digsB s = true ↔ Num.Dig s := by
  unfold digsB Num.Dig
  rw [List.all_eq_true]
  exact ⟨fun h c hc => dig_iff.1 (h c hc), fun h c hc => dig_iff.2 (h c hc)⟩
theorem numOf_dec (n : Nat) : numOf (Lib.decDigits n) = n := by
  have := numOf_val (Lib.decDigits n) 0 (Num.dec_dig n)
  have h2 := Num.dec_val n
  unfold numOf
  rw [show ((0 : Nat) : Int) = 0 from rfl, h2] at this
  omega
theorem winOf_dec {n : Nat} (h : 1 ≤ n) (h2 : n ≤ 1000) : winOf (Lib.decDigits n) = some n := by
  unfold winOf
  rw [numOf_dec, digsB_iff.2 (Num.dec_dig n)]
  simp [h, h2]
theorem numP_back {v : Int} (h : Num.sat v = v) (r : List Key) : numP (numK v ++ r) = some (v, r) := by
  have h1 := Num.sat_lo v
  have h2 := Num.sat_hi v
  unfold numK
  by_cases hn : Num.sat v < 0
  · rw [if_pos hn]
    show numP (kMinus :: (2, _) :: r) = _
    rw [numP, if_pos rfl, numM, if_pos rfl]
    obtain ⟨e1, e2⟩ := Num.parse_minus_digits (m := -Num.sat v) (by omega) (by omega)
    unfold valOf
    rw [show ([45] : Tx) ++ Num.digitsOf (-Num.sat v) = 45 :: Num.digitsOf (-Num.sat v) from rfl, e1, e2]
    simp [h]
  · rw [if_neg hn]
    show numP ((2, _) :: r) = _
    rw [numP, if_neg (by simp [kMinus]), numM, if_pos rfl]
    obtain ⟨e1, e2⟩ := Num.parse_digits (m := Num.sat v) (by omega) (by omega)
    unfold valOf
    rw [List.nil_append, e1, e2]
    simp [h]
theorem cmpP_back {c : Cm} (h : okC c) (r : List Key) : cmpP (cmpKs c ++ r) = some (c, r) := by
  obtain ⟨h1, h2, h3, h4, h5, h6⟩ := h
  have hops : ∀ x ∈ c.sel, x.2.1.toNat ≤ 2 := fun x hx => (Mat.mayM1_iff.1 ((Mat.mayM_iff.1 h3).2 x hx)).1
  have e : cmpKs c ++ r = (1, aggS c.agg.toNat) :: kOpen :: kBrace :: (joinK c.sel ++ kBraceE :: (kSq :: (2, Lib.decDigits c.win.toNat) :: kSqE :: kEnd :: (4, cmpS c.cmp.toNat) :: (numK c.val ++ r))) := by
    simp [cmpKs]
  rw [e, cmpP, if_pos ⟨rfl, rfl, rfl⟩, aggOf_back h1]
  simp only
  rw [selP_back _ hops]
  simp only [h3, if_true]
  rw [tailP, if_pos ⟨rfl, rfl, rfl, rfl, rfl⟩, winOf_dec (by omega) (by omega)]
  simp only
  rw [cmpOf_back h2]
  simp only
  rw [numP_back h6]
  simp only [Option.map_some]
  rw [show ((c.win.toNat : Nat) : Int) = c.win by omega]
def Stop (o : Bool) (r : List Key) : Prop := ∀ x t, r = x :: t → x ≠ opKey o
theorem stop_nil (o : Bool) : Stop o [] := fun x t h => by cases h
theorem stop_end (o : Bool) (r : List Key) : Stop o (kEnd :: r) := fun x t h => by cases h; cases o <;> decide
theorem more_stop {o : Bool} {t : Tree} {r : List Key} (h : Stop o r) : pE (.more o t) r = some (t, r) := by
  cases r with
  | nil => rfl
  | cons x r => exact pE_stop (h x r rfl)
theorem cmpKs_head (c : Cm) (h : okC c) : ∃ s t, cmpKs c = (1, s) :: t ∧ (1, s) ≠ kNot ∧ (1, s) ≠ kOpen := by
  refine ⟨_, _, rfl, ?_, by simp [kOpen]⟩
  have := h.1
  rcases u8_le c.agg 5 (by omega) h.1 with e | e | e | e | e | e <;> rw [e] <;> decide
theorem back : ∀ (t : Tree), okT t → (∀ r, pE .one (pks 2 t ++ r) = some (t, r)) ∧ (∀ r, pE .and (pks 1 t ++ r) = pE (.more false t) r) ∧ (∀ r, Stop false r → pE .or (pks 0 t ++ r) = pE (.more true t) r)
  | .leaf c, h => by
    have h1 : ∀ r, pE .one (cmpKs c ++ r) = some (.leaf c, r) := by
      intro r
      obtain ⟨s, t, e, n1, n2⟩ := cmpKs_head c h
      have hb := cmpP_back h r
      rw [e] at hb ⊢
      rw [List.cons_append] at hb ⊢
      rw [pE_cmp n1 n2, hb]
      rfl
    have h2 : ∀ r, pE .and (cmpKs c ++ r) = pE (.more false (.leaf c)) r := fun r => by rw [pE_and, h1 r]
    exact ⟨h1, h2, fun r hr => by
      show pE .or (cmpKs c ++ r) = _
      rw [pE_or, h2 r, more_stop hr]⟩
  | .neg t, h => by
    have hb := (back t h).1
    have h1 : ∀ r, pE .one (kNot :: pks 2 t ++ r) = some (.neg t, r) := by
      intro r
      rw [List.cons_append, pE_not, hb r]
      rfl
    have h2 : ∀ r, pE .and (kNot :: pks 2 t ++ r) = pE (.more false (.neg t)) r := fun r => by rw [pE_and, h1 r]
    exact ⟨h1, h2, fun r hr => by
      show pE .or (kNot :: pks 2 t ++ r) = _
      rw [pE_or, h2 r, more_stop hr]⟩
  | .bin true l u, h => by
    have hl := back l h.1
    have hu := back u h.2
    have h3 : ∀ r, Stop false r → pE .or (pks 0 l ++ opKey true :: pks 1 u ++ r) = pE (.more true (.bin true l u)) r := by
      intro r hr
      rw [List.append_assoc, hl.2.2 _ (fun x t e => by cases e; decide), List.cons_append, pE_more]
      show (match pE .and (pks 1 u ++ r) with | none => none | some (u2, r2) => pE (.more true (.bin true l u2)) r2) = _
      rw [hu.2.1 r, more_stop hr]
    have h1 : ∀ r, pE .one (kOpen :: (pks 0 l ++ opKey true :: pks 1 u ++ [kEnd]) ++ r) = some (.bin true l u, r) := by
      intro r
      rw [List.cons_append, pE_open, List.append_assoc _ [kEnd] r, h3 ([kEnd] ++ r) (stop_end _ _)]
      show closeF (pE (.more true (.bin true l u)) (kEnd :: r)) = _
      rw [more_stop (stop_end _ _)]
      simp [closeF]
    have h2 : ∀ r, pE .and (kOpen :: (pks 0 l ++ opKey true :: pks 1 u ++ [kEnd]) ++ r) = pE (.more false (.bin true l u)) r := fun r => by rw [pE_and, h1 r]
    exact ⟨h1, h2, h3⟩
  | .bin false l u, h => by
    have hl := back l h.1
    have hu := back u h.2
    have h2 : ∀ r, pE .and (pks 1 l ++ opKey false :: pks 2 u ++ r) = pE (.more false (.bin false l u)) r := by
      intro r
      rw [List.append_assoc, hl.2.1, List.cons_append, pE_more]
      show (match pE .one (pks 2 u ++ r) with | none => none | some (u2, r2) => pE (.more false (.bin false l u2)) r2) = _
      rw [hu.1 r]
    have h3 : ∀ r, Stop false r → pE .or (pks 1 l ++ opKey false :: pks 2 u ++ r) = pE (.more true (.bin false l u)) r := by
      intro r hr
      rw [pE_or, h2 r, more_stop hr]
    have h1 : ∀ r, pE .one (kOpen :: (pks 1 l ++ opKey false :: pks 2 u ++ [kEnd]) ++ r) = some (.bin false l u, r) := by
      intro r
      rw [List.cons_append, pE_open, List.append_assoc _ [kEnd] r, h3 ([kEnd] ++ r) (stop_end _ _)]
      show closeF (pE (.more true (.bin false l u)) (kEnd :: r)) = _
      rw [more_stop (stop_end _ _)]
      simp [closeF]
    exact ⟨h1, h2, h3⟩
/-- the tokens of a condition's text are just that condition. -/
theorem back_whole {t : Tree} (h : okT t) : pE .or (pks 0 t) = some (t, []) := by
  have := (back t h).2.2 [] (stop_nil _)
  rw [List.append_nil] at this
  exact this

def Ends (e : List Key) : Prop := Stop true e ∧ Stop false e
theorem Ends.at {e : List Key} (h : Ends e) (o : Bool) : Stop o e := by cases o; exact h.2; exact h.1
end Go.Proofs.YtjhodmpgggaknaaGreatDoor
/- Plain mathematics of expr: which nodes are those of a condition; what nodes count. No program in it. -/
namespace Go.Proofs.YtjhodmpgggaknaaGreatDoor

def sidesN (n : Nd) : List Int := if n.kind = 1 ∨ n.kind = 2 then [n.left, n.right] else if n.kind = 3 then [n.left] else []
def compsN (n : Nd) : Bool := n.agg != 0 || !n.sel.isEmpty || n.win != 0 || n.cmp != 0 || n.val != 0
def leafB (n : Nd) : Bool := n.left == 0 && n.right == 0 && decide (n.agg.toNat ≤ 5) && decide (n.cmp.toNat ≤ 5) && Mat.mayM n.sel && decide (1 ≤ n.win) && decide (n.win ≤ 1000) && Num.sat n.val == n.val
def mayBeN (n : Nd) : Bool := if n.kind = 0 then leafB n else if n.kind = 1 ∨ n.kind = 2 then !compsN n else if n.kind = 3 then !compsN n && n.right == 0 else false
/-- nodes that no other one has yet, behind one more. -/
def stepR (free : List Int) (i : Nat) (n : Nd) : Option (List Int) :=
  if mayBeN n = true ∧ (sidesN n).length ≤ free.length ∧ free.drop (free.length - (sidesN n).length) = sidesN n then some (free.take (free.length - (sidesN n).length) ++ [(i : Int)]) else none
def walkR : List Int → Nat → List Nd → Option (List Int)
  | f, _, [] => some f
  | f, i, n :: l => match stepR f i n with
    | none => none
    | some g => walkR g (i + 1) l
def rightB (l : List Nd) : Bool := decide (l.length ≤ 31) && (match walkR [] 0 l with | some f => f.length == 1 | none => false)
theorem walkR_app : ∀ (l m : List Nd) (f : List Int) (i : Nat), walkR f i (l ++ m) = match walkR f i l with
    | none => none
    | some g => walkR g (i + l.length) m
  | [], m, f, i => rfl
  | n :: l, m, f, i => by
    rw [List.cons_append, walkR, walkR]
    cases stepR f i n with
    | none => rfl
    | some g =>
      simp only
      rw [walkR_app l m g (i + 1), List.length_cons, show i + 1 + l.length = i + (l.length + 1) by omega]
theorem comps_bin (o : Bool) (l r : Int) : compsN (binNd o l r) = false := by simp [compsN, binNd]
theorem leafB_iff {n : Nd} : leafB n = true ↔ n.left = 0 ∧ n.right = 0 ∧ okC ⟨n.agg, n.sel, n.win, n.cmp, n.val⟩ := by
  unfold leafB okC
  simp only [Bool.and_eq_true, decide_eq_true_iff, beq_iff_eq]
  constructor
  · rintro ⟨⟨⟨⟨⟨⟨⟨a, b⟩, c⟩, d⟩, e⟩, f⟩, g⟩, h⟩
    exact ⟨a, b, c, d, e, f, g, h⟩
  · rintro ⟨a, b, c, d, e, f, g, h⟩
    exact ⟨⟨⟨⟨⟨⟨⟨a, b⟩, c⟩, d⟩, e⟩, f⟩, g⟩, h⟩
theorem step_leaf {c : Cm} (h : okC c) (f : List Int) (i : Nat) : stepR f i (cmpNd c) = some (f ++ [(i : Int)]) := by
  unfold stepR
  have h1 : mayBeN (cmpNd c) = true := by
    unfold mayBeN
    rw [if_pos (show (cmpNd c).kind = 0 from rfl)]
    exact leafB_iff.2 ⟨rfl, rfl, h⟩
  have h2 : sidesN (cmpNd c) = [] := rfl
  rw [h1, h2]
  simp
theorem step_bin (o : Bool) (f : List Int) (a b : Int) (i : Nat) : stepR (f ++ [a, b]) i (binNd o a b) = some (f ++ [(i : Int)]) := by
  unfold stepR
  have h1 : mayBeN (binNd o a b) = true := by
    unfold mayBeN
    rw [comps_bin]
    cases o <;> simp [binNd, opK]
  have h2 : sidesN (binNd o a b) = [a, b] := by cases o <;> simp [sidesN, binNd, opK]
  rw [h1, h2]
  simp
theorem step_neg (f : List Int) (a : Int) (i : Nat) : stepR (f ++ [a]) i (negNd a) = some (f ++ [(i : Int)]) := by
  unfold stepR
  have h1 : mayBeN (negNd a) = true := by simp [mayBeN, negNd, compsN]
  have h2 : sidesN (negNd a) = [a] := by simp [sidesN, negNd]
  rw [h1, h2]
  simp
theorem walkR_flat : ∀ (t : Tree), okT t → ∀ (b : Nat) (f : List Int), walkR f b (flat b t) = some (f ++ [((b + t.size : Nat) : Int) - 1])
  | .leaf c, h, b, f => by
    rw [flat, walkR, step_leaf h]
    show some _ = some _
    congr 3
    simp [Tree.size]
  | .neg t, h, b, f => by
    rw [flat, walkR_app, walkR_flat t h b f, flat_len]
    simp only
    rw [walkR, step_neg]
    show some _ = some _
    congr 3
    simp [Tree.size]; omega
  | .bin o l r, h, b, f => by
    rw [flat, walkR_app, walkR_app, walkR_flat l h.1 b f, flat_len, List.length_append, flat_len, flat_len]
    simp only
    rw [walkR_flat r h.2]
    simp only
    rw [walkR, List.append_assoc]
    show (match stepR (f ++ [_, _]) _ _ with | none => none | some g => walkR g _ []) = _
    rw [step_bin]
    show some _ = some _
    congr 3
    simp [Tree.size]; omega
theorem right_flat {t : Tree} (h : okT t) (hs : t.size ≤ 31) : rightB (flat 0 t) = true := by
  unfold rightB
  rw [walkR_flat t h 0 [], flat_len]
  simp [hs]
/-- several trees, one behind the other. -/
def sizeF : List Tree → Nat
  | [] => 0
  | t :: l => t.size + sizeF l
def flatF : Nat → List Tree → List Nd
  | _, [] => []
  | b, t :: l => flat b t ++ flatF (b + t.size) l
def rootF : Nat → List Tree → List Int
  | _, [] => []
  | b, t :: l => (((b + t.size : Nat) : Int) - 1) :: rootF (b + t.size) l
theorem sizeF_app (a b : List Tree) : sizeF (a ++ b) = sizeF a + sizeF b := by
  induction a with
  | nil => simp [sizeF]
  | cons t a ih => simp [sizeF, ih]; omega
theorem flatF_app (a b : List Tree) : ∀ n, flatF n (a ++ b) = flatF n a ++ flatF (n + sizeF a) b := by
  induction a with
  | nil => intro n; simp [flatF, sizeF]
  | cons t a ih => intro n; simp [flatF, sizeF, ih, Nat.add_assoc]
theorem rootF_app (a b : List Tree) : ∀ n, rootF n (a ++ b) = rootF n a ++ rootF (n + sizeF a) b := by
  induction a with
  | nil => intro n; simp [rootF, sizeF]
  | cons t a ih => intro n; simp [rootF, sizeF, ih, Nat.add_assoc]
theorem rootF_len (a : List Tree) : ∀ n, (rootF n a).length = a.length := by
  induction a with
  | nil => intro n; rfl
  | cons t a ih => intro n; simp [rootF, ih]
theorem last_split {α : Type} (l : List α) (k : Nat) (h : k ≤ l.length) : ∃ a b, l = a ++ b ∧ b.length = k ∧ a.length = l.length - k := ⟨l.take (l.length - k), l.drop (l.length - k), (List.take_append_drop _ _).symm, by simp; omega, by simp⟩
theorem not_comps {n : Nd} (h : compsN n = false) : n.agg = 0 ∧ n.sel = [] ∧ n.win = 0 ∧ n.cmp = 0 ∧ n.val = 0 := by
  unfold compsN at h
  simp only [Bool.or_eq_false_iff] at h
  obtain ⟨⟨⟨⟨h1, h2⟩, h3⟩, h4⟩, h5⟩ := h
  simp at h1 h2 h3 h4 h5
  exact ⟨h1, h2, h3, h4, h5⟩
theorem step_inv {us : List Tree} {n : Nd} {g : List Int} (hu : ∀ t ∈ us, okT t) (h : stepR (rootF 0 us) (sizeF us) n = some g) :
    ∃ vs, (∀ t ∈ vs, okT t) ∧ g = rootF 0 vs ∧ flatF 0 vs = flatF 0 us ++ [n] ∧ sizeF vs = sizeF us + 1 := by
  unfold stepR at h
  split at h
  · rename_i hc
    obtain ⟨h1, h2, h3⟩ := hc
    cases h
    unfold mayBeN at h1
    split at h1
    · rename_i hk
      obtain ⟨l0, r0, hok⟩ := leafB_iff.1 h1
      have hs : sidesN n = [] := by unfold sidesN; rw [hk]; rfl
      have hn : n = cmpNd ⟨n.agg, n.sel, n.win, n.cmp, n.val⟩ := by
        obtain ⟨a1, a2, a3, a4, a5, a6, a7, a8⟩ := n
        simp only at hk l0 r0
        subst hk l0 r0
        rfl
      refine ⟨us ++ [.leaf ⟨n.agg, n.sel, n.win, n.cmp, n.val⟩], fun t ht => ?_, ?_, ?_, ?_⟩
      · rcases List.mem_append.1 ht with ht | ht
        · exact hu t ht
        · simp at ht; subst ht; exact hok
      · rw [hs, rootF_app]
        simp [rootF, Tree.size]
      · rw [flatF_app]
        simp only [flatF, flat, List.append_nil]
        rw [← hn]
      · rw [sizeF_app]; simp [sizeF, Tree.size]
    · rename_i hk0
      split at h1
      · rename_i hk
        have hs : sidesN n = [n.left, n.right] := by unfold sidesN; rw [if_pos hk]
        rw [hs] at h2 h3
        have hlen := rootF_len us 0
        simp only [List.length_cons, List.length_nil] at h2 h3
        obtain ⟨a, b, rfl, hb, _⟩ := last_split us 2 (by omega)
        match b, hb with
        | [x, y], _ =>
          have hr : rootF 0 (a ++ [x, y]) = rootF 0 a ++ [((sizeF a + x.size : Nat) : Int) - 1, ((sizeF a + x.size + y.size : Nat) : Int) - 1] := by
            rw [rootF_app]; simp [rootF]
          have hl2 : (rootF 0 (a ++ [x, y])).length - 2 = (rootF 0 a).length := by rw [hr]; simp
          rw [show 0 + 1 + 1 = 2 by rfl, hl2, hr, List.drop_left] at h3
          injection h3 with e1 e3
          injection e3 with e2 _
          obtain ⟨f1, f2, f3, f4, f5⟩ := not_comps (by simpa using h1)
          have hn : n = binNd (n.kind == 2) (((sizeF a + x.size : Nat) : Int) - 1) (((sizeF a + x.size + y.size : Nat) : Int) - 1) := by
            obtain ⟨a1, a2, a3, a4, a5, a6, a7, a8⟩ := n
            simp only at hk e1 e2 f1 f2 f3 f4 f5
            subst f1 f2 f3 f4 f5 e1 e2
            rcases hk with rfl | rfl <;> rfl
          refine ⟨a ++ [.bin (n.kind == 2) x y], fun t ht => ?_, ?_, ?_, ?_⟩
          · rcases List.mem_append.1 ht with ht | ht
            · exact hu t (by simp [ht])
            · simp at ht; subst ht
              exact ⟨hu x (by simp), hu y (by simp)⟩
          · rw [hs]
            simp only [List.length_cons, List.length_nil]
            rw [show 0 + 1 + 1 = 2 by rfl, hl2, hr, List.take_left, rootF_app, sizeF_app]
            simp [rootF, sizeF, Tree.size]; omega
          · rw [flatF_app, flatF_app]
            simp only [flatF, flat, List.append_nil, List.append_assoc, Nat.zero_add]
            rw [← hn]
          · rw [sizeF_app, sizeF_app]; simp [sizeF, Tree.size]; omega
      · rename_i hk1
        split at h1
        · rename_i hk
          have hs : sidesN n = [n.left] := by unfold sidesN; rw [if_neg hk1, if_pos hk]
          rw [hs] at h2 h3
          have hlen := rootF_len us 0
          simp only [List.length_cons, List.length_nil] at h2 h3
          obtain ⟨a, b, rfl, hb, _⟩ := last_split us 1 (by omega)
          match b, hb with
          | [x], _ =>
            have hr : rootF 0 (a ++ [x]) = rootF 0 a ++ [((sizeF a + x.size : Nat) : Int) - 1] := by
              rw [rootF_app]; simp [rootF]
            have hl2 : (rootF 0 (a ++ [x])).length - 1 = (rootF 0 a).length := by rw [hr]; simp
            rw [show 0 + 1 = 1 by rfl, hl2, hr, List.drop_left] at h3
            injection h3 with e1 _
            rw [Bool.and_eq_true] at h1
            obtain ⟨f1, f2, f3, f4, f5⟩ := not_comps (by simpa using h1.1)
            have e2 : n.right = 0 := by simpa using h1.2
            have hn : n = negNd (((sizeF a + x.size : Nat) : Int) - 1) := by
              obtain ⟨a1, a2, a3, a4, a5, a6, a7, a8⟩ := n
              simp only at hk e1 e2 f1 f2 f3 f4 f5
              subst f1 f2 f3 f4 f5 e1 e2 hk
              rfl
            refine ⟨a ++ [.neg x], fun t ht => ?_, ?_, ?_, ?_⟩
            · rcases List.mem_append.1 ht with ht | ht
              · exact hu t (by simp [ht])
              · simp at ht; subst ht
                exact hu x (by simp)
            · rw [hs]
              simp only [List.length_cons, List.length_nil]
              rw [show 0 + 1 = 1 by rfl, hl2, hr, List.take_left, rootF_app, sizeF_app]
              simp [rootF, sizeF, Tree.size]; omega
            · rw [flatF_app, flatF_app]
              simp only [flatF, flat, List.append_nil, List.append_assoc, Nat.zero_add]
              rw [← hn]
            · rw [sizeF_app, sizeF_app]; simp [sizeF, Tree.size]; omega
        · cases h1
  · cases h
theorem walkR_inv : ∀ (l : List Nd) (us : List Tree) (g : List Int), (∀ t ∈ us, okT t) → walkR (rootF 0 us) (sizeF us) l = some g → ∃ vs, (∀ t ∈ vs, okT t) ∧ g = rootF 0 vs ∧ flatF 0 vs = flatF 0 us ++ l
  | [], us, g, hu, h => by cases h; exact ⟨us, hu, rfl, by simp⟩
  | n :: l, us, g, hu, h => by
    rw [walkR] at h
    cases hs : stepR (rootF 0 us) (sizeF us) n with
    | none => rw [hs] at h; cases h
    | some f =>
      rw [hs] at h
      simp only at h
      obtain ⟨vs, h1, rfl, h3, h4⟩ := step_inv hu hs
      rw [← h4] at h
      obtain ⟨ws, k1, k2, k3⟩ := walkR_inv l vs g h1 h
      exact ⟨ws, k1, k2, by rw [k3, h3]; simp⟩
theorem right_inv {l : List Nd} (h : rightB l = true) : l.length ≤ 31 ∧ ∃ t, okT t ∧ l = flat 0 t ∧ t.size = l.length := by
  unfold rightB at h
  rw [Bool.and_eq_true, decide_eq_true_iff] at h
  refine ⟨h.1, ?_⟩
  cases hg : walkR [] 0 l with
  | none => rw [hg] at h; cases h.2
  | some f =>
    rw [hg] at h
    obtain ⟨vs, h1, rfl, h3⟩ := walkR_inv l [] f (by simp) hg
    have hl : vs.length = 1 := by have := h.2; simp [rootF_len] at this; exact this
    match vs, hl with
    | [t], _ =>
      have e : l = flat 0 t := by simpa [flatF] using h3.symm
      exact ⟨t, h1 t (by simp), e, by rw [e, flat_len]⟩
theorem right_iff {l : List Nd} : rightB l = true ↔ ∃ t, okT t ∧ l = flat 0 t ∧ t.size ≤ 31 := by
  constructor
  · intro h
    obtain ⟨h1, t, h2, h3, h4⟩ := right_inv h
    exact ⟨t, h2, h3, by omega⟩
  · rintro ⟨t, h, rfl, hs⟩
    exact right_flat h hs
theorem not_right {l : List Nd} (h : rightB l = false) (t : Tree) (ht : okT t) (hs : t.size ≤ 31) : l ≠ flat 0 t := by
  rintro rfl
  rw [right_flat ht hs] at h
  cases h
end Go.Proofs.YtjhodmpgggaknaaGreatDoor
/- Plain mathematics of expr: a condition's text, and that its tokens are that condition's, also if they are taken part by part between its blanks. No program in it. -/
namespace Go.Proofs.YtjhodmpgggaknaaGreatDoor

def opW (o : Bool) : Tx := if o then [111, 114] else [97, 110, 100]
def ptxC (c : Cm) : Tx := aggS c.agg.toNat ++ (40 :: (Mat.printM c.sel ++ (91 :: (Lib.decDigits c.win.toNat ++ (93 :: 41 :: 32 :: (cmpS c.cmp.toNat ++ (32 :: Num.printL c.val)))))))
def parens (b : Bool) (s : Tx) : Tx := if b then 40 :: (s ++ [41]) else s
/-- a condition's text, if what is weaker than n stands in parentheses. -/
def ptx : Nat → Tree → Tx
  | _, .leaf c => ptxC c
  | n, .bin o l r => parens (decide (lvl o < n)) (ptx (lvl o) l ++ (32 :: (opW o ++ (32 :: ptx (lvl o + 1) r))))
  | _, .neg t => [110, 111, 116, 32] ++ ptx 2 t
/- its parts: tokens and blanks. -/
abbrev Pc := Option Key
def formO : Pc → Tx
  | none => [32]
  | some k => form k.1 k.2
def textO (l : List Pc) : Tx := l.flatMap formO
def keysO (l : List Pc) : List Key := l.filterMap id
theorem textO_cons (x : Pc) (l : List Pc) : textO (x :: l) = formO x ++ textO l := rfl
theorem textO_app (a b : List Pc) : textO (a ++ b) = textO a ++ textO b := by simp [textO]
theorem keysO_app (a b : List Pc) : keysO (a ++ b) = keysO a ++ keysO b := by simp [keysO]
def pcsC (c : Cm) : List Pc := some (1, aggS c.agg.toNat) :: some kOpen :: some kBrace :: ((joinK c.sel).map some ++ (some kBraceE :: some kSq :: some (2, Lib.decDigits c.win.toNat) :: some kSqE :: some kEnd :: none :: some (4, cmpS c.cmp.toNat) :: none :: (numK c.val).map some))
def parensP (b : Bool) (l : List Pc) : List Pc := if b then some kOpen :: (l ++ [some kEnd]) else l
def pcs : Nat → Tree → List Pc
  | _, .leaf c => pcsC c
  | n, .bin o l r => parensP (decide (lvl o < n)) (pcs (lvl o) l ++ (none :: some (opKey o) :: none :: pcs (lvl o + 1) r))
  | _, .neg t => some kNot :: none :: pcs 2 t
theorem keysO_map (l : List Key) : keysO (l.map some) = l := by
  induction l with
  | nil => rfl
  | cons x l ih => simp [keysO] at *
theorem keys_pcs : ∀ (t : Tree) (n : Nat), keysO (pcs n t) = pks n t
  | .leaf c, n => by
    show keysO (pcsC c) = cmpKs c
    have h1 := keysO_map (joinK c.sel)
    have h2 := keysO_map (numK c.val)
    unfold keysO at *
    simp [pcsC, cmpKs, h1, h2]
  | .neg t, n => by
    have := keys_pcs t 2
    unfold keysO at *
    simp [pcs, pks, this]
  | .bin o l r, n => by
    have h1 := keys_pcs l (lvl o)
    have h2 := keys_pcs r (lvl o + 1)
    unfold keysO at *
    rw [pcs, pks]
    by_cases h : lvl o < n
    · simp [parensP, h, h1, h2]
    · simp [parensP, h, h1, h2]
theorem textO_item (x : Mat.Mt) : textO ((itemK x).map some) = Mat.itemM x := by
  simp [textO, itemK, formO, form, Mat.itemM]
theorem textO_join : ∀ (l : List Mat.Mt), textO ((joinK l).map some) = Lib.join (l.map Mat.itemM) [44]
  | [] => rfl
  | [x] => by rw [joinK, textO_item, List.map_singleton, Lib.join_one]
  | x :: y :: l => by
    rw [joinK, List.map_append, textO_app, textO_item, List.map_cons, textO_cons, textO_join (y :: l)]
    exact (join2 (Mat.itemM x) ((y :: l).map Mat.itemM) (by simp) 44).symm
theorem textO_num (v : Int) : textO ((numK v).map some) = Num.printL v := by
  unfold numK Num.printL
  split
  · simp [textO, formO, form, kMinus]
  · simp [textO, formO, form]
theorem textO_pcsC (c : Cm) : textO (pcsC c) = ptxC c := by
  unfold pcsC ptxC Mat.printM
  simp only [textO_cons, textO_app, textO_join, textO_num]
  simp [formO, form, kOpen, kBrace, kBraceE, kSq, kSqE, kEnd]
theorem text_pcs : ∀ (t : Tree) (n : Nat), textO (pcs n t) = ptx n t
  | .leaf c, n => textO_pcsC c
  | .neg t, n => by
    rw [pcs, ptx, textO_cons, textO_cons, text_pcs t 2]
    rfl
  | .bin o l r, n => by
    have hk : formO (some (opKey o)) = opW o := by cases o <;> rfl
    have e : textO (pcs (lvl o) l ++ (none :: some (opKey o) :: none :: pcs (lvl o + 1) r)) = ptx (lvl o) l ++ (32 :: (opW o ++ (32 :: ptx (lvl o + 1) r))) := by
      rw [textO_app, textO_cons, textO_cons, textO_cons, text_pcs l, text_pcs r, hk]
      simp [formO]
    rw [pcs, ptx]
    by_cases h : lvl o < n
    · simp only [parensP, parens, h, decide_true, if_true]
      rw [textO_cons, textO_app, e]
      simp [formO, form, kOpen, kEnd, textO]
    · simp only [parensP, parens, h, decide_false, if_false, Bool.false_eq_true]
      exact e

/- what may stand behind a token. -/
def Fit (k : Key) (t : Tx) : Prop := first (form k.1 k.2 ++ t) = some (k.1, k.2, (form k.1 k.2).length)
def FitE (k : Key) : Prop := Fit k [] ∧ ∀ t, Fit k (32 :: t)
def FitN (k k2 : Key) : Prop := ∀ t, Fit k (form k2.1 k2.2 ++ t)
def After (k : Key) : Option Pc → Prop
  | none => FitE k
  | some none => FitE k
  | some (some k2) => FitN k k2
def hdP (l : List Pc) (n : Option Pc) : Option Pc := match l with
  | [] => n
  | x :: _ => some x
def Glue : List Pc → Option Pc → Prop
  | [], _ => True
  | none :: l, n => Glue l n
  | some k :: l, n => After k (hdP l n) ∧ Glue l n
theorem glue_app : ∀ (a b : List Pc) (n : Option Pc), Glue (a ++ b) n ↔ Glue a (hdP b n) ∧ Glue b n
  | [], b, n => by simp [Glue]
  | none :: a, b, n => by
    rw [List.cons_append, Glue, Glue]
    exact glue_app a b n
  | some k :: a, b, n => by
    have e : hdP (a ++ b) n = hdP a (hdP b n) := by cases a <;> rfl
    rw [List.cons_append, Glue, Glue, glue_app a b n, e, and_assoc]
theorem glue_none : ∀ (a : List Pc), Glue a (some none) → Glue a none
  | [], _ => trivial
  | none :: a, h => glue_none a h
  | some _ :: [], h => h
  | some _ :: x :: a, h => ⟨h.1, glue_none (x :: a) h.2⟩
theorem fit_sign {c : UInt8} (h : alone c = true) (h2 : withE c = false) (h3 : low c = false) (h4 : dig c = false) (h5 : c ≠ 34) (t : Tx) : Fit (4, [c]) t := by
  unfold Fit
  show first (c :: t) = _
  have hs : sgn (c :: t) = 1 := by
    cases t with
    | nil => simp [sgn, h]
    | cons d t => simp [sgn, h, h2]
  rw [first_sign h3 h4 h5, hs]
  rfl
theorem fit_two {c : UInt8} (h2 : withE c = true) (h3 : low c = false) (h4 : dig c = false) (h5 : c ≠ 34) (t : Tx) : Fit (4, [c, 61]) t := by
  unfold Fit
  show first (c :: 61 :: t) = _
  have hs : sgn (c :: 61 :: t) = 2 := by simp [sgn, h2]
  rw [first_sign h3 h4 h5, hs]
  rfl
theorem fit_one {c : UInt8} (h : alone c = true) (h3 : low c = false) (h4 : dig c = false) (h5 : c ≠ 34) (t : Tx) (ht : ∀ d r, t = d :: r → d ≠ 61) : Fit (4, [c]) t := by
  unfold Fit
  show first (c :: t) = _
  have hs : sgn (c :: t) = 1 := by
    cases t with
    | nil => simp [sgn, h]
    | cons d t => simp [sgn, h, ht d t rfl]
  rw [first_sign h3 h4 h5, hs]
  rfl
theorem fit_text {v : Tx} (h : ∀ c ∈ v, vlc c = true) (t : Tx) : Fit (3, v) t := (Shape.text (r := t) h).first
theorem fit_word {c : UInt8} {s : Tx} (h : low c = true) (hs : ∀ d ∈ s, nmc d = true) (t : Tx) (ht : ∀ d r, t = d :: r → nmc d = false) : Fit (1, c :: s) t := by
  unfold Fit
  show first (c :: (s ++ t)) = _
  have e : cnt nmc (c :: (s ++ t)) = (c :: s).length := cnt_join (a := c :: s) (b := t) (fun d hd => by
    rcases List.mem_cons.1 hd with rfl | hd
    · exact low_nmc h
    · exact hs d hd) ht
  rw [first_word h, e]
  have : (c :: (s ++ t)).take (c :: s).length = c :: s := by
    rw [← List.cons_append]
    exact List.take_left
  rw [this]
  rfl
theorem fit_num {s : Tx} (h : numL s = s.length) (h0 : ∃ c r, s = c :: r ∧ dig c = true) {t : Tx} (ht : t = [] ∨ ∃ c r, t = c :: r ∧ ends c = true) : Fit (2, s) t := by
  obtain ⟨c, r, rfl, hd⟩ := h0
  have hl : low c = false := by
    cases hh : low c
    · rfl
    · unfold low at hh
      unfold dig at hd
      simp at hh hd
      omega
  have e0 : first (c :: r) = some (2, c :: r, (c :: r).length) := by
    rw [first_num hl hd, h, List.take_length]
  unfold Fit
  show first ((c :: r) ++ t) = some (2, c :: r, (c :: r).length)
  rcases ht with rfl | ⟨d, q, rfl, hq⟩
  · rw [List.append_nil]; exact e0
  · exact first_app e0 hq q
theorem numL_whole {s : Tx} (h : ∀ c ∈ s, dig c = true) : numL s = s.length := by
  unfold numL
  rw [cnt_all h, List.drop_length]
  rfl
theorem numL_part {a b : Tx} (ha : ∀ c ∈ a, dig c = true) (hb : ∀ c ∈ b, dig c = true) (h0 : b ≠ []) : numL (a ++ 46 :: b) = (a ++ 46 :: b).length := by
  have e : cnt dig (a ++ 46 :: b) = a.length := cnt_join ha (fun c t h => by cases h; decide)
  unfold numL
  rw [e, List.drop_left]
  show a.length + (if (46 : UInt8) = 46 then (if cnt dig b = 0 then 0 else cnt dig b + 1) else 0) = _
  rw [if_pos rfl, cnt_all hb, if_neg (by cases b; exact absurd rfl h0; simp)]
  simp
/-- a number's digits are one token. -/
theorem digits_tok (m : Int) : numL (Num.digitsOf m) = (Num.digitsOf m).length ∧ ∃ c r, Num.digitsOf m = c :: r ∧ dig c = true := by
  have h1 : ∀ c ∈ Lib.decDigits (m / 1000).toNat, dig c = true := fun c hc => dig_iff.2 (Num.dec_dig _ c hc)
  have h2 : ∃ c r, Lib.decDigits (m / 1000).toNat = c :: r ∧ dig c = true := by
    cases e : Lib.decDigits (m / 1000).toNat with
    | nil => exact absurd e (Num.dec_ne _)
    | cons c r => exact ⟨c, r, rfl, h1 c (by rw [e]; simp)⟩
  unfold Num.digitsOf
  split
  · rename_i hp
    have hr : (m % 1000).toNat < 1000 := by omega
    have e1 : (1000 + m % 1000).toNat = 1000 + (m % 1000).toNat := by omega
    obtain ⟨q1, q2, q3⟩ := Num.part_val hr
    rw [e1]
    obtain ⟨k, hk⟩ := Num.trim_split (Lib.decDigits (1000 + (m % 1000).toNat)).tail
    have hne : Lib.trimRightB (Lib.decDigits (1000 + (m % 1000).toNat)).tail 48 ≠ [] := by
      intro h0
      rw [h0, List.nil_append] at hk
      rw [hk, Num.val_noughts] at q3
      simp at q3
      omega
    have hd : ∀ c ∈ Lib.trimRightB (Lib.decDigits (1000 + (m % 1000).toNat)).tail 48, dig c = true := fun c hc => dig_iff.2 (q1 c (by rw [hk]; exact List.mem_append_left _ hc))
    refine ⟨numL_part h1 hd hne, ?_⟩
    obtain ⟨c, r, e, hc⟩ := h2
    exact ⟨c, _, by rw [e]; rfl, hc⟩
  · rw [List.append_nil]
    exact ⟨numL_whole h1, h2⟩
theorem after_sign {c : UInt8} (h : alone c = true) (h2 : withE c = false) (h3 : low c = false) (h4 : dig c = false) (h5 : c ≠ 34) (n : Option Pc) : After (4, [c]) n := by
  cases n with
  | none => exact ⟨fit_sign h h2 h3 h4 h5 _, fun t => fit_sign h h2 h3 h4 h5 _⟩
  | some p =>
    cases p with
    | none => exact ⟨fit_sign h h2 h3 h4 h5 _, fun t => fit_sign h h2 h3 h4 h5 _⟩
    | some k => exact fun t => fit_sign h h2 h3 h4 h5 _
def Soft (n : Option Pc) : Prop := n = none ∨ n = some none ∨ n = some (some kEnd)
theorem after_num {s : Tx} (h : numL s = s.length) (h0 : ∃ c r, s = c :: r ∧ dig c = true) {n : Option Pc} (hn : Soft n ∨ n = some (some kSqE)) : After (2, s) n := by
  rcases hn with (rfl | rfl | rfl) | rfl
  · exact ⟨fit_num h h0 (.inl rfl), fun t => fit_num h h0 (.inr ⟨32, t, rfl, by decide⟩)⟩
  · exact ⟨fit_num h h0 (.inl rfl), fun t => fit_num h h0 (.inr ⟨32, t, rfl, by decide⟩)⟩
  · exact fun t => fit_num h h0 (.inr ⟨41, t, rfl, by decide⟩)
  · exact fun t => fit_num h h0 (.inr ⟨93, t, rfl, by decide⟩)
theorem after_word {c : UInt8} {s : Tx} (h : low c = true) (hs : ∀ d ∈ s, nmc d = true) : FitE (1, c :: s) :=
  ⟨fit_word h hs [] (fun d r e => by cases e), fun t => fit_word h hs _ (fun d r e => by cases e; decide)⟩
theorem agg_word {a : UInt8} (h : a.toNat ≤ 5) : ∃ c s, aggS a.toNat = c :: s ∧ low c = true ∧ ∀ d ∈ s, nmc d = true := by
  rcases u8_le a 5 (by omega) h with rfl | rfl | rfl | rfl | rfl | rfl <;> exact ⟨_, _, rfl, by decide, by decide⟩
theorem after_agg {a : UInt8} (h : a.toNat ≤ 5) : After (1, aggS a.toNat) (some (some kOpen)) := by
  obtain ⟨c, s, e, h1, h2⟩ := agg_word h
  rw [e]
  exact fun t => fit_word h1 h2 _ (fun d r e => by cases e; decide)
theorem after_cmp {a : UInt8} (h : a.toNat ≤ 5) : After (4, cmpS a.toNat) (some none) := by
  rcases u8_le a 5 (by omega) h with rfl | rfl | rfl | rfl | rfl | rfl
  · exact ⟨fit_one (by decide) (by decide) (by decide) (by decide) _ (fun d r e => by cases e), fun t => fit_one (by decide) (by decide) (by decide) (by decide) _ (fun d r e => by cases e; decide)⟩
  · exact ⟨fit_two (by decide) (by decide) (by decide) (by decide) _, fun t => fit_two (by decide) (by decide) (by decide) (by decide) _⟩
  · exact ⟨fit_one (by decide) (by decide) (by decide) (by decide) _ (fun d r e => by cases e), fun t => fit_one (by decide) (by decide) (by decide) (by decide) _ (fun d r e => by cases e; decide)⟩
  · exact ⟨fit_two (by decide) (by decide) (by decide) (by decide) _, fun t => fit_two (by decide) (by decide) (by decide) (by decide) _⟩
  · exact ⟨fit_two (by decide) (by decide) (by decide) (by decide) _, fun t => fit_two (by decide) (by decide) (by decide) (by decide) _⟩
  · exact ⟨fit_two (by decide) (by decide) (by decide) (by decide) _, fun t => fit_two (by decide) (by decide) (by decide) (by decide) _⟩
theorem name_word {s : Tx} (h : mayN s = true) : ∃ c r, s = c :: r ∧ low c = true ∧ ∀ d ∈ r, nmc d = true := by
  cases s with
  | nil => exact absurd h (by decide)
  | cons c r =>
    refine ⟨c, r, rfl, mayN_head h, fun d hd => ?_⟩
    unfold mayN at h
    rw [Bool.and_eq_true] at h
    exact (mayB_iff.1 h.1).2.2 d (by simp [hd])
theorem glue_item {x : Mat.Mt} (h : Mat.mayM1 x = true) {n : Option Pc} (hn : ∃ k, n = some (some k)) : Glue ((itemK x).map some) n := by
  obtain ⟨h1, h2, h3⟩ := Mat.mayM1_iff.1 h
  obtain ⟨c, r, e, g1, g2⟩ := name_word h2
  obtain ⟨k, rfl⟩ := hn
  have hv : ∀ d ∈ x.2.2, vlc d = true := by
    unfold Mat.mayV0 at h3
    rw [Bool.and_eq_true, List.all_eq_true] at h3
    exact h3.2
  have ho : x.2.1 = 0 ∨ x.2.1 = 1 ∨ x.2.1 = 2 := by
    rcases u8_le x.2.1 5 (by omega) (by omega) with e | e | e | e | e | e
    · exact .inl e
    · exact .inr (.inl e)
    · exact .inr (.inr e)
    · rw [e] at h1; exact absurd h1 (by decide)
    · rw [e] at h1; exact absurd h1 (by decide)
    · rw [e] at h1; exact absurd h1 (by decide)
  refine ⟨?_, ?_, ?_, trivial⟩
  · show FitN (1, x.1) (4, Mat.opS x.2.1)
    rw [e]
    intro t
    refine fit_word g1 g2 _ (fun d q eq => ?_)
    rcases ho with e2 | e2 | e2 <;> rw [e2] at eq <;> cases eq <;> decide
  · show FitN (4, Mat.opS x.2.1) (3, x.2.2)
    intro t
    rcases ho with e2 | e2 | e2 <;> rw [e2]
    · exact fit_one (by decide) (by decide) (by decide) (by decide) _ (fun d r e => by cases e; decide)
    · exact fit_two (by decide) (by decide) (by decide) (by decide) _
    · exact fit_two (by decide) (by decide) (by decide) (by decide) _
  · exact fun t => fit_text hv _
theorem glue_join : ∀ (l : List Mat.Mt), (∀ x ∈ l, Mat.mayM1 x = true) → Glue ((joinK l).map some) (some (some kBraceE))
  | [], _ => trivial
  | [x], h => glue_item (h x (by simp)) ⟨_, rfl⟩
  | x :: y :: l, h => by
    rw [joinK, List.map_append, glue_app]
    exact ⟨glue_item (h x (by simp)) ⟨_, rfl⟩, after_sign (by decide) (by decide) (by decide) (by decide) (by decide) _, glue_join (y :: l) (fun z hz => h z (by simp at hz ⊢; exact .inr hz))⟩
theorem glue_num (v : Int) {n : Option Pc} (hn : Soft n) : Glue ((numK v).map some) n := by
  unfold numK
  split
  · obtain ⟨h1, h2⟩ := digits_tok (-Num.sat v)
    exact ⟨after_sign (by decide) (by decide) (by decide) (by decide) (by decide) _, after_num h1 h2 (.inl hn), trivial⟩
  · obtain ⟨h1, h2⟩ := digits_tok (Num.sat v)
    exact ⟨after_num h1 h2 (.inl hn), trivial⟩
theorem glue_cmp {c : Cm} (h : okC c) {n : Option Pc} (hn : Soft n) : Glue (pcsC c) n := by
  obtain ⟨h1, h2, h3, h4, h5, h6⟩ := h
  have hw : numL (Lib.decDigits c.win.toNat) = (Lib.decDigits c.win.toNat).length ∧ ∃ d r, Lib.decDigits c.win.toNat = d :: r ∧ dig d = true := by
    have hd : ∀ d ∈ Lib.decDigits c.win.toNat, dig d = true := fun d hc => dig_iff.2 (Num.dec_dig _ d hc)
    refine ⟨numL_whole hd, ?_⟩
    cases e : Lib.decDigits c.win.toNat with
    | nil => exact absurd e (Num.dec_ne _)
    | cons d r => exact ⟨d, r, rfl, hd d (by rw [e]; simp)⟩
  unfold pcsC
  have sg : ∀ (c : UInt8) (n : Option Pc), c ∈ [(40 : UInt8), 41, 123, 125, 91, 93] → After (4, [c]) n := by
    intro c n hc
    simp only [List.mem_cons, List.mem_nil_iff, or_false] at hc
    rcases hc with rfl | rfl | rfl | rfl | rfl | rfl <;> exact after_sign (by decide) (by decide) (by decide) (by decide) (by decide) _
  refine ⟨after_agg h1, sg _ _ (by decide), sg _ _ (by decide), ?_⟩
  rw [glue_app]
  refine ⟨glue_join c.sel (Mat.mayM_iff.1 h3).2, sg _ _ (by decide), sg _ _ (by decide), after_num hw.1 hw.2 (.inr rfl), sg _ _ (by decide), sg _ _ (by decide), ?_⟩
  exact ⟨after_cmp h2, glue_num c.val hn⟩
theorem glue_pcs : ∀ (t : Tree), okT t → ∀ (m : Nat) (n : Option Pc), Soft n → Glue (pcs m t) n
  | .leaf c, h, m, n, hn => glue_cmp h hn
  | .neg t, h, m, n, hn => ⟨after_word (by decide) (by decide), glue_pcs t h 2 n hn⟩
  | .bin o l r, h, m, n, hn => by
    have hw : FitE (opKey o) := by
      cases o
      · exact after_word (by decide) (by decide)
      · exact after_word (by decide) (by decide)
    have inner : ∀ n, Soft n → Glue (pcs (lvl o) l ++ (none :: some (opKey o) :: none :: pcs (lvl o + 1) r)) n := by
      intro n hn
      rw [glue_app]
      exact ⟨glue_pcs l h.1 _ _ (.inr (.inl rfl)), hw, glue_pcs r h.2 _ _ hn⟩
    rw [pcs]
    unfold parensP
    split
    · refine ⟨after_sign (by decide) (by decide) (by decide) (by decide) (by decide) _, ?_⟩
      rw [glue_app]
      exact ⟨inner _ (.inr (.inr rfl)), after_sign (by decide) (by decide) (by decide) (by decide) (by decide) _, trivial⟩
    · exact inner n hn
/-- what is put together so is read so. -/
theorem fit_step {k : Key} {t : Tx} (h : Fit k t) {p : Nat} {l : List Tk} {b : Option Nat} (hs : Scan (p + (form k.1 k.2).length) t l b) : Scan p (form k.1 k.2 ++ t) (⟨k.1, k.2, p⟩ :: l) b := by
  have hg : gap (form k.1 k.2 ++ t) = 0 := by
    have := first_gap h []
    rwa [List.append_nil] at this
  have hf := first_form h
  have hlt : gap (form k.1 k.2 ++ t) < (form k.1 k.2 ++ t).length := by rw [hg]; simp; omega
  have h2 : first ((form k.1 k.2 ++ t).drop (gap (form k.1 k.2 ++ t))) = some (k.1, k.2, (form k.1 k.2).length) := by rw [hg, List.drop_zero]; exact h
  have h3 : Scan (p + gap (form k.1 k.2 ++ t) + (form k.1 k.2).length) ((form k.1 k.2 ++ t).drop (gap (form k.1 k.2 ++ t) + (form k.1 k.2).length)) l b := by
    rw [hg, Nat.add_zero, Nat.zero_add, List.drop_left]; exact hs
  have := Scan.tok hlt h2 h3
  rw [hg, Nat.add_zero] at this
  exact this
theorem glue_scan : ∀ (l : List Pc), Glue l none → ∀ p, ∃ m, Scan p (textO l) m none ∧ m.map Tk.key = keysO l
  | [], _, p => ⟨[], .done rfl, rfl⟩
  | none :: l, h, p => by
    obtain ⟨m, h1, h2⟩ := glue_scan l h (p + 1)
    refine ⟨m, ?_, h2⟩
    exact scan_ahead (p := [32]) (gap_blank (textO l) (by decide) |>.trans (Nat.add_comm _ _)) h1
  | some k :: l, h, p => by
    obtain ⟨m, h1, h2⟩ := glue_scan l h.2 (p + (form k.1 k.2).length)
    have hf : Fit k (textO l) := by
      match l, h.1 with
      | [], h => exact h.1
      | none :: l, h => exact h.2 _
      | some k2 :: l, h => exact h _
    exact ⟨_, fit_step hf h1, by rw [List.map_cons, h2]; rfl⟩
end Go.Proofs.YtjhodmpgggaknaaGreatDoor
