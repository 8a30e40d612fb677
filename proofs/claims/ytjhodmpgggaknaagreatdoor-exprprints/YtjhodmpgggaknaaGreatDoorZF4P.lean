import Derived.Test.YtjhodmpgggaknaaGreatDoorZHA
import Derived.Test.YtjhodmpgggaknaaGreatDoorZHH
import Derived.Test.YtjhodmpgggaknaaGreatDoorZNM
import Derived.Test.YtjhodmpgggaknaaGreatDoorZX1
/- The document's comparison. -/
namespace Go.Proofs.YtjhodmpgggaknaaGreatDoor
open Go.RowKit Go.Shelf Go.Maps

/-- the node that is made, in its box. -/
structure BoxN (w W : World) (bn : Nat) (a : Int) (sv : Value) (wn c x : Int) : Prop where
  low : Below w.heap.size w W
  lo : w.heap.size ≤ bn
  at_ : W.heap[bn]? = some (.cells #[.int .u8 0, .int .u8 a, sv, .int .i64 wn, .int .u8 c, .int .i64 x, .int .i64 0, .int .i64 0] 31)
theorem BoxN.below {w W W' : World} {bn : Nat} {a : Int} {sv : Value} {wn c x : Int} (h : BoxN w W bn a sv wn c x) (hb : Below W.heap.size W W') : BoxN w W' bn a sv wn c x := ⟨low' h.low hb, h.lo, (hb.block _ (lt_of_block h.at_)).trans h.at_⟩
theorem BoxN.lt {w W : World} {bn : Nat} {a : Int} {sv : Value} {wn c x : Int} (h : BoxN w W bn a sv wn c x) : bn + 1 ≤ W.heap.size := lt_of_block h.at_
theorem BoxN.c2 {w W : World} {bn : Nat} {a : Int} {sv : Value} {wn c x : Int} (h : BoxN w W bn a sv wn c x) : W.cell? ⟨bn, 2, none⟩ = some sv := by rw [cell_of h.at_]; rfl
theorem BoxN.c3 {w W : World} {bn : Nat} {a : Int} {sv : Value} {wn c x : Int} (h : BoxN w W bn a sv wn c x) : W.cell? ⟨bn, 3, none⟩ = some (.int .i64 wn) := by rw [cell_of h.at_]; rfl
theorem BoxN.all {w W : World} {bn : Nat} {a : Int} {sv : Value} {wn c x : Int} (h : BoxN w W bn a sv wn c x) : W.cell? ⟨bn, 0, none⟩ = some (.int .u8 0) ∧ W.cell? ⟨bn, 1, none⟩ = some (.int .u8 a) ∧ W.cell? ⟨bn, 4, none⟩ = some (.int .u8 c) ∧ W.cell? ⟨bn, 5, none⟩ = some (.int .i64 x) ∧ W.cell? ⟨bn, 6, none⟩ = some (.int .i64 0) ∧ W.cell? ⟨bn, 7, none⟩ = some (.int .i64 0) := by
  refine ⟨?_, ?_, ?_, ?_, ?_, ?_⟩ <;> (rw [cell_of h.at_]; rfl)
theorem BoxN.set1 {w W : World} {bn : Nat} {a : Int} {sv : Value} {wn c x : Int} (h : BoxN w W bn a sv wn c x) (y : Int) : BoxN w (W.setCell ⟨bn, 1, none⟩ (.int .u8 y)) bn y sv wn c x := ⟨h.low.setCell h.lo _, h.lo, by rw [heap_set_at h.at_]; rfl⟩
theorem BoxN.set2 {w W : World} {bn : Nat} {a : Int} {sv : Value} {wn c x : Int} (h : BoxN w W bn a sv wn c x) (y : Value) : BoxN w (W.setCell ⟨bn, 2, none⟩ y) bn a y wn c x := ⟨h.low.setCell h.lo _, h.lo, by rw [heap_set_at h.at_]; rfl⟩
theorem BoxN.set3 {w W : World} {bn : Nat} {a : Int} {sv : Value} {wn c x : Int} (h : BoxN w W bn a sv wn c x) (y : Int) : BoxN w (W.setCell ⟨bn, 3, none⟩ (.int .i64 y)) bn a sv y c x := ⟨h.low.setCell h.lo _, h.lo, by rw [heap_set_at h.at_]; rfl⟩
theorem BoxN.set4 {w W : World} {bn : Nat} {a : Int} {sv : Value} {wn c x : Int} (h : BoxN w W bn a sv wn c x) (y : Int) : BoxN w (W.setCell ⟨bn, 4, none⟩ (.int .u8 y)) bn a sv wn y x := ⟨h.low.setCell h.lo _, h.lo, by rw [heap_set_at h.at_]; rfl⟩
theorem BoxN.set5 {w W : World} {bn : Nat} {a : Int} {sv : Value} {wn c x : Int} (h : BoxN w W bn a sv wn c x) (y : Int) : BoxN w (W.setCell ⟨bn, 5, none⟩ (.int .i64 y)) bn a sv wn c y := ⟨h.low.setCell h.lo _, h.lo, by rw [heap_set_at h.at_]; rfl⟩
theorem BoxN.pushed {w W W' : World} {bn : Nat} {a : Int} {sv : Value} {wn c x : Int} (h : BoxN w W bn a sv wn c x) (hb : Below (bn + 1) W W') : BoxN w W' bn a sv wn c x := ⟨h.low.trans (hb.mono (by have := h.lo; omega)), h.lo, (hb.block _ (by omega)).trans h.at_⟩
theorem ownM_set {W : World} {bn : Nat} {sv : Value} {l : List Mat.Mt} (h : Mat.OwnM (bn + 1) W sv l) (o : Nat) (v : Value) : Mat.OwnM (bn + 1) (W.setCell ⟨bn, o, none⟩ v) sv l := h.keep fun k hk => heap_set _ _ _ _ _ (by have := (h.lt hk).1; omega)
/- plain. -/
theorem aggOf_none {s : Tx} (h : ∀ j, j < 6 → s ≠ aggS j) : aggOf s = none := by
  unfold aggOf
  rw [if_neg (h 0 (by decide)), if_neg (h 1 (by decide)), if_neg (h 2 (by decide)), if_neg (h 3 (by decide)), if_neg (h 4 (by decide)), if_neg (h 5 (by decide))]
theorem cmpOf_none {s : Tx} (h : ∀ j, j < 6 → s ≠ cmpS j) : cmpOf s = none := by
  unfold cmpOf
  rw [if_neg (h 0 (by decide)), if_neg (h 1 (by decide)), if_neg (h 2 (by decide)), if_neg (h 3 (by decide)), if_neg (h 4 (by decide)), if_neg (h 5 (by decide))]
theorem ragg_of (k : Nat) (hk : k < 6) : aggOf (aggS k) = some (UInt8.ofNat k) ∧ aggS k ≠ [42] ∧ (UInt8.ofNat k).toNat = k := by
  match k, hk with
  | 0, _ | 1, _ | 2, _ | 3, _ | 4, _ | 5, _ => decide
theorem cmp_of (k : Nat) (hk : k < 6) : cmpOf (cmpS k) = some (UInt8.ofNat k) ∧ cmpS k ≠ [42] := by
  match k, hk with
  | 0, _ | 1, _ | 2, _ | 3, _ | 4, _ | 5, _ => decide
theorem cmpP_no1 {ks : List Key} (h : ∀ j, j < 6 → isK 1 (aggS j) ks = false) : cmpP ks = none := by
  match ks with
  | [] => rfl
  | [_] => rfl
  | [_, _] => rfl
  | (k1, s) :: x2 :: x3 :: r =>
    rw [cmpP]
    split
    · rename_i hc
      obtain ⟨rfl, _, _⟩ := hc
      rw [aggOf_none (fun j hj e => isK_no (h j hj) _ (by rw [e]))]
    · rfl
theorem cmpP_no2 {x : Key} {ks : List Key} (h : isK 4 [40] ks = false) : cmpP (x :: ks) = none := by
  obtain ⟨k1, s⟩ := x
  match ks with
  | [] => rfl
  | [_] => rfl
  | x2 :: x3 :: r =>
    rw [cmpP, if_neg]
    rintro ⟨_, rfl, _⟩
    exact isK_no h _ rfl
theorem cmpP_no3 {x y : Key} {ks : List Key} (h : isK 4 [123] ks = false) : cmpP (x :: y :: ks) = none := by
  obtain ⟨k1, s⟩ := x
  match ks with
  | [] => rfl
  | x3 :: r =>
    rw [cmpP, if_neg]
    rintro ⟨_, _, rfl⟩
    exact isK_no h _ rfl
def restP (a : UInt8) (ks : List Key) : Option (Cm × List Key) := match selP ks with
  | none => none
  | some (sel, r2) => if Mat.mayM sel then tailP a sel r2 else none
theorem cmpP_go {k : Nat} (hk : k < 6) (ks : List Key) : cmpP ((1, aggS k) :: (4, [40]) :: (4, [123]) :: ks) = restP (UInt8.ofNat k) ks := by
  rw [cmpP, if_pos ⟨rfl, rfl, rfl⟩, (ragg_of k hk).1]
  rfl
def restM (a : UInt8) : Option (List Mat.Mt × List Key) → Option (Cm × List Key)
  | none => none
  | some (sel, r2) => if Mat.mayM sel then tailP a sel r2 else none
theorem selP_else {ks : List Key} (h : isK 4 [125] ks = false) : selP ks = moreM [] ks := by
  cases ks with
  | nil => rfl
  | cons x r => rw [selP, if_neg (fun e => isK_no h r (by rw [e]; rfl))]
theorem restP_else {a : UInt8} {ks : List Key} (h : isK 4 [125] ks = false) : restP a ks = restM a (moreM [] ks) := by
  unfold restP
  rw [selP_else h]
  cases moreM [] ks with
  | none => rfl
  | some q => rfl
theorem moreM_none {acc : List Mat.Mt} {ks : List Key} (h : matK ks = none) : moreM acc ks = none := by
  match ks with
  | [] => rfl
  | [_] => rfl
  | [_, _] => rfl
  | [_, _, _] => rfl
  | (k1, n) :: (k2, o) :: (k3, v) :: y :: r =>
    rw [matK] at h
    rw [moreM]
    split
    · rename_i hc
      rw [if_pos hc] at h
      cases ho : opOf o with
      | none => rfl
      | some p => rw [ho] at h; cases h
    · rfl
theorem moreM_at {acc : List Mat.Mt} {x1 x2 x3 : Key} {ks : List Key} {m : Mat.Mt} (h : matK (x1 :: x2 :: x3 :: ks) = some m) :
    (∀ r, ks = (4, [125]) :: r → moreM acc (x1 :: x2 :: x3 :: ks) = some (acc ++ [m], r)) ∧ (isK 4 [125] ks = false → (∀ r, ks = (4, [44]) :: r → moreM acc (x1 :: x2 :: x3 :: ks) = moreM (acc ++ [m]) r) ∧ (isK 4 [44] ks = false → moreM acc (x1 :: x2 :: x3 :: ks) = none)) := by
  obtain ⟨k1, n⟩ := x1
  obtain ⟨k2, o⟩ := x2
  obtain ⟨k3, v⟩ := x3
  rw [matK] at h
  split at h
  · rename_i hc
    cases ho : opOf o with
    | none => rw [ho] at h; cases h
    | some p =>
      rw [ho] at h
      cases h
      refine ⟨?_, fun h1 => ⟨?_, fun h2 => ?_⟩⟩
      · rintro r rfl
        rw [moreM, if_pos hc, ho]
        simp [kBraceE]
      · rintro r rfl
        rw [moreM, if_pos hc, ho]
        simp [kBraceE, kComma]
      · cases ks with
        | nil => rfl
        | cons y r =>
          rw [moreM, if_pos hc, ho]
          simp only
          rw [if_neg (fun e => isK_no h1 r (by rw [e]; rfl)), if_neg (fun e => isK_no h2 r (by rw [e]; rfl))]
  · cases h
theorem tailP_no1 {a : UInt8} {sel : List Mat.Mt} {ks : List Key} (h : isK 4 [91] ks = false) : tailP a sel ks = none := by
  match ks with
  | [] => rfl
  | [_] => rfl
  | [_, _] => rfl
  | [_, _, _] => rfl
  | [_, _, _, _] => rfl
  | x1 :: (k2, d) :: x3 :: x4 :: (k5, c) :: r =>
    rw [tailP, if_neg]
    rintro ⟨rfl, _⟩
    exact isK_no h _ rfl
theorem tailP_no2 {a : UInt8} {sel : List Mat.Mt} {x : Key} {ks : List Key} (h : isK 2 [42] ks = false) : tailP a sel (x :: ks) = none := by
  match ks with
  | [] => rfl
  | [_] => rfl
  | [_, _] => rfl
  | [_, _, _] => rfl
  | (k2, d) :: x3 :: x4 :: (k5, c) :: r =>
    rw [tailP, if_neg]
    rintro ⟨_, rfl, _⟩
    exact isK_star h _ _ rfl
theorem tailP_no3 {a : UInt8} {sel : List Mat.Mt} {x y : Key} {ks : List Key} (h : isK 4 [93] ks = false) : tailP a sel (x :: y :: ks) = none := by
  obtain ⟨k2, d⟩ := y
  match ks with
  | [] => rfl
  | [_] => rfl
  | [_, _] => rfl
  | x3 :: x4 :: (k5, c) :: r =>
    rw [tailP, if_neg]
    rintro ⟨_, _, rfl, _⟩
    exact isK_no h _ rfl
theorem tailP_no4 {a : UInt8} {sel : List Mat.Mt} {x y z : Key} {ks : List Key} (h : isK 4 [41] ks = false) : tailP a sel (x :: y :: z :: ks) = none := by
  obtain ⟨k2, d⟩ := y
  match ks with
  | [] => rfl
  | [_] => rfl
  | x4 :: (k5, c) :: r =>
    rw [tailP, if_neg]
    rintro ⟨_, _, _, rfl, _⟩
    exact isK_no h _ rfl
theorem tailP_no5 {a : UInt8} {sel : List Mat.Mt} {d : Tx} {ks : List Key} (h : (∀ j, j < 6 → isK 4 (cmpS j) ks = false) ∨ winD d = 0) : tailP a sel ((4, [91]) :: (2, d) :: (4, [93]) :: (4, [41]) :: ks) = none := by
  match ks with
  | [] => rfl
  | (k5, c) :: r =>
    rw [tailP]
    split
    · rename_i hc
      obtain ⟨_, _, _, _, rfl⟩ := hc
      cases hw : winOf d with
      | none => rfl
      | some n =>
        rcases h with h | h
        · rw [cmpOf_none (fun j hj e => isK_no (h j hj) _ (by rw [e]))]
        · exfalso
          unfold winD at h
          rw [hw] at h
          have := winOf_ok hw
          simp only at h
          omega
    · rfl
theorem tailP_go {a : UInt8} {sel : List Mat.Mt} {d : Tx} {k : Nat} (hk : k < 6) {ks : List Key} (h : winD d ≠ 0) : tailP a sel ((4, [91]) :: (2, d) :: (4, [93]) :: (4, [41]) :: (4, cmpS k) :: ks) = (numP ks).map (fun q => (⟨a, sel, winD d, UInt8.ofNat k, q.1⟩, q.2)) := by
  rw [tailP, if_pos ⟨rfl, rfl, rfl, rfl, rfl⟩]
  cases hw : winOf d with
  | none =>
    exfalso
    unfold winD at h
    rw [hw] at h
    exact h rfl
  | some n =>
    simp only
    rw [(cmp_of k hk).1]
    unfold winD
    rw [hw]
theorem numP_else {ks : List Key} (h : isK 4 [45] ks = false) : numP ks = numM [] ks := by
  cases ks with
  | nil => rfl
  | cons x r => rw [numP, if_neg (fun e => isK_no h r (by rw [e]; rfl))]
theorem numM_no {sg : Tx} {ks : List Key} (h : isK 2 [42] ks = false) : numM sg ks = none := by
  cases ks with
  | nil => rfl
  | cons x r =>
    obtain ⟨k, d⟩ := x
    rw [numM, if_neg (fun e => isK_star h d r (by rw [← e]))]
theorem numM_bad {sg d : Tx} {r : List Key} (h : Num.parseE (sg ++ d) ≠ 0) : numM sg ((2, d) :: r) = none := by
  rw [numM, if_pos rfl, valOf, if_neg h]
  rfl
theorem numM_go {sg d : Tx} {r : List Key} (h : Num.parseE (sg ++ d) = 0) : numM sg ((2, d) :: r) = some (Num.parseN (sg ++ d), r) := by
  rw [numM, if_pos rfl, valOf, if_pos h]
  rfl
def CmpD (l : List Tk) (i : Nat) (w : World) (e : Ending) (w' : World) : Prop := Below w.heap.size w w' ∧ ((cmpP (kat l i) = none ∧ e = .returned (.tuple #[.slice none 0 0, .int .i64 (-1)])) ∨ ∃ c j, cmpP (kat l i) = some (c, kat l j) ∧ j ≤ l.length ∧ ∃ vn, e = .returned (.tuple #[vn, .int .i64 (j : Int)]) ∧ OwnN w.heap.size w' vn [cmpNd c])
theorem cmpD_no {l : List Tk} {i : Nat} {w W : World} (hb : Below w.heap.size w W) (h : cmpP (kat l i) = none) : CmpD l i w (.returned (.tuple #[.slice none 0 0, .int .i64 (-1)])) W := ⟨hb, .inl ⟨h, rfl⟩⟩
theorem cmpD_yes {l : List Tk} {i j : Nat} {w W : World} {bn k p : Nat} {sv : Value} {wn x : Int} {sel : List Mat.Mt} (hX : BoxN w W bn (k : Int) sv wn (p : Int) x) (hO : Mat.OwnM (bn + 1) W sv sel) (hk : k < 6) (hp : p < 6) (hj : j ≤ l.length) (h : cmpP (kat l i) = some (⟨UInt8.ofNat k, sel, wn, UInt8.ofNat p, x⟩, kat l j)) :
    CmpD l i w (.returned (.tuple #[.slice (some ⟨W.heap.size, 0, none⟩) 1 1, .int .i64 (j : Int)])) (W.alloc (.cells #[.int .u8 0, .int .u8 (k : Int), sv, .int .i64 wn, .int .u8 (p : Int), .int .i64 x, .int .i64 0, .int .i64 0] 31)) := by
  refine ⟨low' hX.low (alloc_below _ _), .inr ⟨_, j, h, hj, _, rfl, ?_⟩⟩
  have ek : ((UInt8.ofNat k).toNat : Int) = k := by rw [(ragg_of k hk).2.2]
  have ep : ((UInt8.ofNat p).toNat : Int) = p := by rw [(ragg_of p hp).2.2]
  refine ⟨[(cmpNd ⟨UInt8.ofNat k, sel, wn, UInt8.ofNat p, x⟩, sv)], rfl, ?_, ?_⟩
  · have := ownZ_one W (cmpNd ⟨UInt8.ofNat k, sel, wn, UInt8.ofNat p, x⟩) sv
    simp only [cmpNd, ek, ep] at this
    exact this.base hX.low.size
  · intro q hq
    simp at hq
    subst hq
    exact (hO.base (by have := hX.lo; omega)).below (alloc_below _ _)
end Go.Proofs.YtjhodmpgggaknaaGreatDoor
