/- Joined: GP B25 B26 B27 B28 B29. -/
import Derived.Test.YtjhodmpgggaknaaGreatDoorZG1
import Derived.Test.YtjhodmpgggaknaaGreatDoorZGO
import Derived.Test.YtjhodmpgggaknaaGreatDoorZGK
import Derived.Test.YtjhodmpgggaknaaGreatDoorZNPrint
import Derived.Test.YtjhodmpgggaknaaGreatDoorZGE
/- The texts that the document's Print makes of nodes, one behind the other. -/
namespace Go.Proofs.YtjhodmpgggaknaaGreatDoor
def kindAt (ns : List Nd) (i : Nat) : UInt8 := match ns[i]? with
  | some x => x.kind
  | none => 0
def txAt (tx : List Tx) (i : Nat) : Tx := tx.getD i []
def compT (x : Nd) : Tx := aggS x.agg.toNat ++ (40 :: (Mat.printM x.sel ++ (91 :: (decT x.win ++ (93 :: 41 :: 32 :: (cmpS x.cmp.toNat ++ (32 :: Num.printL x.val)))))))
/-- what one node says. -/
def nodeT (ns : List Nd) (tx : List Tx) (x : Nd) : Tx :=
  if x.kind = 0 then compT x
  else if x.kind = 1 then sideT (txAt tx x.left.toNat) (kindAt ns x.left.toNat == 2) ++ (32 :: 97 :: 110 :: 100 :: 32 :: sideT (txAt tx x.right.toNat) (kindAt ns x.right.toNat == 1 || kindAt ns x.right.toNat == 2))
  else if x.kind = 2 then txAt tx x.left.toNat ++ (32 :: 111 :: 114 :: 32 :: sideT (txAt tx x.right.toNat) (kindAt ns x.right.toNat == 2))
  else 110 :: 111 :: 116 :: 32 :: sideT (txAt tx x.left.toNat) (kindAt ns x.left.toNat == 1 || kindAt ns x.left.toNat == 2)
def textsD (ns : List Nd) : Nat → List Tx
  | 0 => []
  | k + 1 => textsD ns k ++ [match ns[k]? with
    | some x => nodeT ns (textsD ns k) x
    | none => []]
theorem textsD_len (ns : List Nd) : ∀ k, (textsD ns k).length = k
  | 0 => rfl
  | k + 1 => by rw [textsD, List.length_append, textsD_len ns k]; rfl
theorem textsD_at {ns : List Nd} {k : Nat} {x : Nd} (hx : ns[k]? = some x) : textsD ns (k + 1) = textsD ns k ++ [nodeT ns (textsD ns k) x] := by
  rw [textsD, hx]
/-- may a node be at that place? -/
def okNd (i : Nat) (x : Nd) : Bool := decide (x.kind.toNat ≤ 3) && (x.kind != 0 || (decide (x.agg.toNat ≤ 5) && decide (x.cmp.toNat ≤ 5))) && (x.kind == 0 || (decide (0 ≤ x.left) && decide (x.left < (i : Int)) && decide (0 ≤ x.right) && (decide (x.right < (i : Int)) || x.kind == 3)))
theorem okNd_bin {i : Nat} {x : Nd} (hk : x.kind = 1 ∨ x.kind = 2) (h1 : 0 ≤ x.left) (h2 : x.left < (i : Int)) (h3 : 0 ≤ x.right) (h4 : x.right < (i : Int)) : okNd i x = true := by
  unfold okNd
  rw [decide_eq_true h1, decide_eq_true h2, decide_eq_true h3, decide_eq_true h4]
  rcases hk with hk | hk <;> simp [hk]
theorem okNd_neg {i : Nat} {x : Nd} (hk : x.kind = 3) (h1 : 0 ≤ x.left) (h2 : x.left < (i : Int)) (h3 : 0 ≤ x.right) : okNd i x = true := by
  unfold okNd
  rw [decide_eq_true h1, decide_eq_true h2, decide_eq_true h3]
  simp [hk]
theorem ok_flat : ∀ (t : Tree), okT t → ∀ (b i : Nat) (x : Nd), (flat b t)[i]? = some x → okNd (b + i) x = true
  | .leaf c, h, b, i, x, hx => by
    obtain ⟨h1, h2, _⟩ := h
    cases i with
    | zero =>
      simp [flat] at hx
      subst hx
      simp [okNd, cmpNd, h1, h2]
    | succ i => simp [flat] at hx
  | .neg t, h, b, i, x, hx => by
    have hp := t.pos
    have hl := flat_len t b
    rw [flat] at hx
    by_cases hi : i < t.size
    · rw [List.getElem?_append_left (by omega)] at hx
      exact ok_flat t h b i x hx
    · rw [List.getElem?_append_right (by omega), hl] at hx
      by_cases e : i = t.size
      · subst e
        simp at hx
        subst hx
        exact okNd_neg rfl (by simp only [negNd]; omega) (by simp only [negNd]; omega) (by simp [negNd])
      · rw [List.getElem?_eq_none (by simp; omega)] at hx
        cases hx
  | .bin o l r, h, b, i, x, hx => by
    have hp := l.pos
    have hp2 := r.pos
    have hl := flat_len l b
    have hr := flat_len r (b + l.size)
    rw [flat] at hx
    by_cases hi : i < l.size + r.size
    · rw [List.getElem?_append_left (by rw [List.length_append]; omega)] at hx
      by_cases hi2 : i < l.size
      · rw [List.getElem?_append_left (by omega)] at hx
        exact ok_flat l h.1 b i x hx
      · rw [List.getElem?_append_right (by omega), hl] at hx
        have := ok_flat r h.2 (b + l.size) (i - l.size) x hx
        rwa [show b + l.size + (i - l.size) = b + i by omega] at this
    · rw [List.getElem?_append_right (by rw [List.length_append]; omega), List.length_append, hl, hr] at hx
      by_cases e : i = l.size + r.size
      · subst e
        simp at hx
        subst hx
        exact okNd_bin (by cases o <;> simp [binNd, opK]) (by simp only [binNd]; omega) (by simp only [binNd]; omega) (by simp only [binNd]; omega) (by simp only [binNd]; omega)
      · rw [List.getElem?_eq_none (by simp; omega)] at hx
        cases hx
def rootK : Tree → UInt8
  | .leaf _ => 0
  | .bin o _ _ => opK o
  | .neg _ => 3
theorem root_flat : ∀ (t : Tree) (b : Nat), ∃ x, (flat b t)[t.size - 1]? = some x ∧ x.kind = rootK t
  | .leaf c, b => ⟨_, rfl, rfl⟩
  | .neg t, b => by
    have hl := flat_len t b
    refine ⟨negNd ((b + t.size : Nat) - 1 : Int), ?_, rfl⟩
    rw [flat, Tree.size, Nat.add_sub_cancel, List.getElem?_append_right (by omega), hl, Nat.sub_self]
    rfl
  | .bin o l r, b => by
    have hl := flat_len l b
    have hr := flat_len r (b + l.size)
    refine ⟨binNd o ((b + l.size : Nat) - 1 : Int) ((b + l.size + r.size : Nat) - 1 : Int), ?_, rfl⟩
    rw [flat, Tree.size, Nat.add_sub_cancel, List.getElem?_append_right (by rw [List.length_append]; omega), List.length_append, hl, hr, Nat.sub_self]
    rfl
theorem side1 (t : Tree) : ptx 1 t = sideT (ptx 0 t) (rootK t == 2) := by
  cases t with
  | leaf c => rfl
  | neg t => rfl
  | bin o l r => cases o <;> rfl
theorem side2 (t : Tree) : ptx 2 t = sideT (ptx 0 t) (rootK t == 1 || rootK t == 2) := by
  cases t with
  | leaf c => rfl
  | neg t => rfl
  | bin o l r => cases o <;> rfl
def dl : Tree → List Tx
  | .leaf c => [ptxC c]
  | .bin o l r => dl l ++ dl r ++ [ptx 0 (.bin o l r)]
  | .neg t => dl t ++ [ptx 0 (.neg t)]
theorem dl_len : ∀ t, (dl t).length = t.size
  | .leaf _ => rfl
  | .bin o l r => by rw [dl, List.length_append, List.length_append, dl_len l, dl_len r]; rfl
  | .neg t => by rw [dl, List.length_append, dl_len t]; rfl
theorem dl_last : ∀ t, (dl t)[t.size - 1]? = some (ptx 0 t)
  | .leaf _ => rfl
  | .bin o l r => by
    have h1 := dl_len l
    have h2 := dl_len r
    rw [dl, Tree.size, Nat.add_sub_cancel, List.getElem?_append_right (by rw [List.length_append]; omega), List.length_append, h1, h2, Nat.sub_self]
    rfl
  | .neg t => by
    have h1 := dl_len t
    rw [dl, Tree.size, Nat.add_sub_cancel, List.getElem?_append_right (by omega), h1, Nat.sub_self]
    rfl
theorem dl_short : ∀ t, okT t → ∀ x ∈ dl t, x.length ≤ 570 * t.size
  | .leaf c, h, x, hx => by
    simp [dl] at hx
    subst hx
    have := ptxC_len (c := c) h
    simp only [Tree.size]
    omega
  | .bin o l r, h, x, hx => by
    have hs : (Tree.bin o l r).size = l.size + r.size + 1 := rfl
    rw [dl] at hx
    rcases List.mem_append.1 hx with hx | hx
    · rcases List.mem_append.1 hx with hx | hx
      · have := dl_short l h.1 x hx
        omega
      · have := dl_short r h.2 x hx
        omega
    · simp at hx
      subst hx
      exact ptx_len _ h 0
  | .neg t, h, x, hx => by
    have hs : (Tree.neg t).size = t.size + 1 := rfl
    rw [dl] at hx
    rcases List.mem_append.1 hx with hx | hx
    · have := dl_short t h x hx
      omega
    · simp at hx
      subst hx
      exact ptx_len _ h 0
theorem comp_ptx {c : Cm} (h : okC c) : compT (cmpNd c) = ptxC c := by
  obtain ⟨_, _, _, h4, _, _⟩ := h
  unfold compT ptxC cmpNd decT
  simp only
  rw [if_neg (by omega)]
theorem txAt_mid {A B C : List Tx} {x : Tx} {i n : Nat} (hA : A.length = n) (hx : B[i]? = some x) : txAt (A ++ B ++ C) (n + i) = x := by
  have hi := (List.getElem?_eq_some_iff.1 hx).1
  unfold txAt
  rw [List.getD_eq_getElem?_getD, List.getElem?_append_left (by rw [List.length_append]; omega), List.getElem?_append_right (by omega), hA, Nat.add_sub_cancel_left, hx]
  rfl
theorem texts_flat : ∀ (t : Tree), okT t → ∀ (ns : List Nd) (b : Nat), (∀ i, i < t.size → ns[b + i]? = (flat b t)[i]?) → textsD ns (b + t.size) = textsD ns b ++ dl t
  | .leaf c, h, ns, b, hn => by
    have h0 : ns[b]? = some (cmpNd c) := hn 0 (by simp [Tree.size])
    show textsD ns (b + 1) = _
    rw [textsD_at h0, nodeT, if_pos (show (cmpNd c).kind = 0 from rfl), comp_ptx h]
    rfl
  | .neg t, h, ns, b, hn => by
    have hp := t.pos
    have hl := flat_len t b
    have hs : (Tree.neg t).size = t.size + 1 := rfl
    have ih := texts_flat t h ns b (fun i hi => by
      rw [hn i (by omega), flat, List.getElem?_append_left (by omega)])
    have hx : ns[b + t.size]? = some (negNd ((b + t.size : Nat) - 1 : Int)) := by
      rw [hn t.size (by omega), flat, List.getElem?_append_right (by omega), hl, Nat.sub_self]
      rfl
    obtain ⟨y, hy, hk⟩ := root_flat t b
    have hy2 : ns[b + (t.size - 1)]? = some y := by
      rw [hn (t.size - 1) (by omega), flat, List.getElem?_append_left (by omega)]
      exact hy
    have el : (((b + t.size : Nat) : Int) - 1).toNat = b + (t.size - 1) := by omega
    have etx : txAt (textsD ns b ++ dl t) (b + (t.size - 1)) = ptx 0 t := by
      have := txAt_mid (C := []) (textsD_len ns b) (dl_last t)
      rwa [List.append_nil] at this
    rw [hs, ← Nat.add_assoc, textsD_at hx, ih, dl, ← List.append_assoc]
    congr 2
    show nodeT ns _ (negNd _) = _
    rw [nodeT, if_neg (by simp [negNd]), if_neg (by simp [negNd]), if_neg (by simp [negNd])]
    simp only [negNd]
    rw [el, etx, show kindAt ns (b + (t.size - 1)) = rootK t by unfold kindAt; rw [hy2]; exact hk]
    show _ = [110, 111, 116, 32] ++ ptx 2 t
    rw [side2]
    rfl
  | .bin o l r, h, ns, b, hn => by
    have hp := l.pos
    have hp2 := r.pos
    have hl := flat_len l b
    have hr := flat_len r (b + l.size)
    have hs : (Tree.bin o l r).size = l.size + r.size + 1 := rfl
    have ih1 := texts_flat l h.1 ns b (fun i hi => by
      rw [hn i (by omega), flat, List.getElem?_append_left (by rw [List.length_append]; omega), List.getElem?_append_left (by omega)])
    have ih2 := texts_flat r h.2 ns (b + l.size) (fun i hi => by
      rw [Nat.add_assoc, hn (l.size + i) (by omega), flat, List.getElem?_append_left (by rw [List.length_append]; omega), List.getElem?_append_right (by omega), hl, Nat.add_sub_cancel_left])
    have hx : ns[b + l.size + r.size]? = some (binNd o ((b + l.size : Nat) - 1 : Int) ((b + l.size + r.size : Nat) - 1 : Int)) := by
      have e := hn (l.size + r.size) (by omega)
      rw [show b + (l.size + r.size) = b + l.size + r.size from (Nat.add_assoc ..).symm] at e
      rw [e, flat, List.getElem?_append_right (by rw [List.length_append]; omega), List.length_append, hl, hr, Nat.sub_self]
      rfl
    obtain ⟨y, hy, hk⟩ := root_flat l b
    obtain ⟨z, hz, hk2⟩ := root_flat r (b + l.size)
    have hy2 : ns[b + (l.size - 1)]? = some y := by
      rw [hn (l.size - 1) (by omega), flat, List.getElem?_append_left (by rw [List.length_append]; omega), List.getElem?_append_left (by omega)]
      exact hy
    have hz2 : ns[b + l.size + (r.size - 1)]? = some z := by
      rw [Nat.add_assoc, hn (l.size + (r.size - 1)) (by omega), flat, List.getElem?_append_left (by rw [List.length_append]; omega), List.getElem?_append_right (by omega), hl, Nat.add_sub_cancel_left]
      exact hz
    have el : (((b + l.size : Nat) : Int) - 1).toNat = b + (l.size - 1) := by omega
    have er : (((b + l.size + r.size : Nat) : Int) - 1).toNat = b + l.size + (r.size - 1) := by omega
    have e1 : txAt (textsD ns b ++ dl l ++ dl r) (b + (l.size - 1)) = ptx 0 l := txAt_mid (textsD_len ns b) (dl_last l)
    have e2 : txAt (textsD ns b ++ dl l ++ dl r) (b + l.size + (r.size - 1)) = ptx 0 r := by
      have := txAt_mid (A := textsD ns b ++ dl l) (C := []) (n := b + l.size) (by rw [List.length_append, textsD_len, dl_len]) (dl_last r)
      rwa [List.append_nil] at this
    have k1 : kindAt ns (b + (l.size - 1)) = rootK l := by unfold kindAt; rw [hy2]; exact hk
    have k2 : kindAt ns (b + l.size + (r.size - 1)) = rootK r := by unfold kindAt; rw [hz2]; exact hk2
    rw [hs, ← Nat.add_assoc, ← Nat.add_assoc, textsD_at hx, ih2, ih1, dl, ← List.append_assoc, ← List.append_assoc]
    congr 2
    cases o with
    | false =>
      rw [nodeT, if_neg (by simp [binNd, opK]), if_pos (by simp [binNd, opK])]
      simp only [binNd]
      rw [el, er, e1, e2, k1, k2]
      show _ = ptx 1 l ++ (32 :: ([97, 110, 100] ++ (32 :: ptx 2 r)))
      rw [side1, side2]
      rfl
    | true =>
      rw [nodeT, if_neg (by simp [binNd, opK]), if_neg (by simp [binNd, opK]), if_pos (by simp [binNd, opK])]
      simp only [binNd]
      rw [el, er, e1, e2, k2]
      show _ = ptx 0 l ++ (32 :: ([111, 114] ++ (32 :: ptx 1 r)))
      rw [side1]
      rfl
/-- of right nodes. -/
theorem right_texts {ns : List Nd} {t : Tree} (h : okT t) (hs : t.size ≤ 31) (hn : ns = flat 0 t) : (∀ i x, ns[i]? = some x → okNd i x = true) ∧ (∀ k, k ≤ ns.length → ∀ x ∈ textsD ns k, x.length ≤ 20000) ∧ txAt (textsD ns ns.length) (ns.length - 1) = ptx 0 t := by
  subst hn
  have hl := flat_len t 0
  have e := texts_flat t h (flat 0 t) 0 (fun i _ => by rw [Nat.zero_add])
  rw [Nat.zero_add] at e
  have e0 : textsD (flat 0 t) 0 = [] := rfl
  rw [e0, List.nil_append] at e
  refine ⟨fun i x hx => by have := ok_flat t h 0 i x hx; rwa [Nat.zero_add] at this, ?_, ?_⟩
  · have mono : ∀ (d k : Nat), ∃ m, textsD (flat 0 t) (k + d) = textsD (flat 0 t) k ++ m := fun d => by
      induction d with
      | zero => exact fun k => ⟨[], by simp⟩
      | succ d ih =>
        intro k
        obtain ⟨m, hm⟩ := ih k
        exact ⟨m ++ [_], by rw [← Nat.add_assoc, textsD, hm, List.append_assoc]⟩
    intro k hk x hx
    obtain ⟨m, hm⟩ := mono (t.size - k) k
    rw [show k + (t.size - k) = t.size by omega, e] at hm
    have := dl_short t h x (by rw [hm]; simp [hx])
    omega
  · rw [hl, e]
    unfold txAt
    rw [List.getD_eq_getElem?_getD, dl_last]
    rfl
end Go.Proofs.YtjhodmpgggaknaaGreatDoor
/- Contract of comparison's text. -/
namespace Go.Proofs.YtjhodmpgggaknaaGreatDoor
open Go.RowKit Go.Shelf Go.Maps

theorem join_le (n : Nat) : ∀ l : List Tx, (∀ x ∈ l, x.length ≤ n) → (Lib.join l [44]).length ≤ l.length * (n + 1)
  | [], _ => by simp [Lib.join]
  | [x], h => by
    have := h x (by simp)
    simp [Lib.join]
    omega
  | x :: y :: l, h => by
    have h1 := h x (by simp)
    have h2 := join_le n (y :: l) (fun z hz => h z (by simp at hz ⊢; right; exact hz))
    have e : (Lib.join (x :: y :: l) [44]).length = x.length + 1 + (Lib.join (y :: l) [44]).length := by
      simp [Lib.join, List.intercalate, List.intersperse]
      omega
    rw [e, List.length_cons, Nat.add_mul, Nat.one_mul]
    omega
theorem print_le {m : List Mat.Mt} (h : Mat.mayM m = true) : (Mat.printM m).length ≤ 600 := by
  have h6 := Mat.mayM_len h
  have h1 : (Lib.join (m.map Mat.itemM) [44]).length ≤ (m.map Mat.itemM).length * (90 + 1) := join_le 90 _ (fun x hx => by
    obtain ⟨y, hy, rfl⟩ := List.mem_map.1 hx
    obtain ⟨_, hn, hv⟩ := Mat.mayM_mem h hy
    have := (Mat.itemM_len y).2
    have := Mat.mayV0_len hv
    have := mayN_len hn
    omega)
  rw [List.length_map] at h1
  unfold Mat.printM
  simp only [List.length_cons, List.length_append, List.length_nil]
  have : m.length * (90 + 1) ≤ 6 * (90 + 1) := Nat.mul_le_mul_right _ h6
  omega
theorem agg_own {a : UInt8} (h : a.toNat ≤ 5) : findR aggMap (aggS a.toNat) = some a.toNat ∧ ∀ t, findR aggMap t = some a.toNat → t = aggS a.toNat := by
  refine ⟨by rw [agg_find, aggOf_back h]; rfl, fun t ht => ?_⟩
  rw [agg_find] at ht
  cases hb : aggOf t with
  | none => rw [hb] at ht; cases ht
  | some b =>
    rw [hb] at ht
    injection ht with ht
    rw [(aggOf_inv hb).2, show b.toNat = a.toNat from ht]
theorem cmp_own {a : UInt8} (h : a.toNat ≤ 5) : findR cmpMap (cmpS a.toNat) = some a.toNat ∧ ∀ t, findR cmpMap t = some a.toNat → t = cmpS a.toNat := by
  refine ⟨by rw [cmp_find, cmpOf_back h]; rfl, fun t ht => ?_⟩
  rw [cmp_find] at ht
  cases hb : cmpOf t with
  | none => rw [hb] at ht; cases ht
  | some b =>
    rw [hb] at ht
    injection ht with ht
    rw [(cmpOf_inv hb).2, show b.toNat = a.toNat from ht]
theorem itoa_win {n : Int} (h : 0 ≤ n) : Lib.itoa n = Lib.decDigits n.toNat := by unfold Lib.itoa; rw [if_neg (by omega)]
theorem aggS_le (n : Nat) : (aggS n).length ≤ 5 := by
  unfold aggS
  split <;> simp
theorem cmpS_le (n : Nat) : (cmpS n).length ≤ 2 := by
  unfold cmpS
  split <;> simp
end Go.Proofs.YtjhodmpgggaknaaGreatDoor
/- Contract of comparison's text: its walk. -/
namespace Go.Proofs.YtjhodmpgggaknaaGreatDoor
open Go.RowKit Go.Shelf Go.Maps

theorem low2 {w w1 w2 : World} (h : Below w.heap.size w w1) (h2 : Below w1.heap.size w1 w2) : Below w.heap.size w w2 := h.trans (h2.mono h.size)
set_option maxRecDepth 100000 in
set_option maxHeartbeats 4000000 in
theorem comp_any (x : Nd) (s : Value) (w : World) (hs : Mat.IsMs w s x.sel) (ht : Num.Tab w) (ha : x.agg.toNat ≤ 5) (hc : x.cmp.toNat ≤ 5) (hm : Mat.mayM x.sel = true) (h1 : 1 ≤ x.win) (h2 : x.win ≤ 1000) : Calls Tryz.prog 46 #[ndAgg x s] w fun e w' => e = .returned (str (ptxC ⟨x.agg, x.sel, x.win, x.cmp, x.val⟩)) ∧ Below w.heap.size w w' := by
  obtain ⟨sa, sc, rfl⟩ := hs.slice
  obtain ⟨P, hP⟩ : ∃ P, Mat.printM x.sel = P := ⟨_, rfl⟩
  obtain ⟨D, hD⟩ : ∃ D, Lib.decDigits x.win.toNat = D := ⟨_, rfl⟩
  obtain ⟨A, hA⟩ : ∃ A, aggS x.agg.toNat = A := ⟨_, rfl⟩
  obtain ⟨C, hC⟩ : ∃ C, cmpS x.cmp.toNat = C := ⟨_, rfl⟩
  obtain ⟨U, hU⟩ : ∃ U, Num.printL x.val = U := ⟨_, rfl⟩
  have lP : P.length ≤ 600 := by rw [← hP]; exact print_le hm
  have lD : D.length ≤ 20 := by rw [← hD]; exact Num.dec_len _ (by omega)
  have lA : A.length ≤ 5 := by rw [← hA]; exact aggS_le _
  have lC : C.length ≤ 2 := by rw [← hC]; exact cmpS_le _
  have lU : U.length ≤ 25 := by rw [← hU]; exact Num.print_len _
  obtain ⟨Z, hZ⟩ : ∃ Z : Tx, P ++ [91] ++ D ++ [93] = Z := ⟨_, rfl⟩
  have lZ : Z.length ≤ 700 := by rw [← hZ]; simp; omega
  have hz : Hid ((⟨P.toArray⟩ : ByteArray) ++ ⟨#[91]⟩ ++ ⟨D.toArray⟩ ++ ⟨#[93]⟩ = ⟨Z.toArray⟩) := by
    show _ = _
    rw [show (⟨#[91]⟩ : ByteArray) = ⟨([91] : Tx).toArray⟩ from rfl, show (⟨#[93]⟩ : ByteArray) = ⟨([93] : Tx).toArray⟩ from rfl, app_str, app_str, app_str, hZ]
  have hfin : Hid ((⟨A.toArray⟩ : ByteArray) ++ ⟨#[40]⟩ ++ ⟨Z.toArray⟩ ++ ⟨#[41, 32]⟩ ++ ⟨C.toArray⟩ ++ ⟨#[32]⟩ ++ ⟨U.toArray⟩ = ⟨(ptxC ⟨x.agg, x.sel, x.win, x.cmp, x.val⟩).toArray⟩) := by
    show _ = _
    rw [show (⟨#[40]⟩ : ByteArray) = ⟨([40] : Tx).toArray⟩ from rfl, show (⟨#[41, 32]⟩ : ByteArray) = ⟨([41, 32] : Tx).toArray⟩ from rfl, show (⟨#[32]⟩ : ByteArray) = ⟨([32] : Tx).toArray⟩ from rfl, app_str, app_str, app_str, app_str, app_str, app_str]
    unfold ptxC
    simp only [hP, hD, hA, hC, hU, ← hZ]
    simp
  have cP := hid (fun W (hb : Below w.heap.size w W) => (Mat.mprint_any _ _ W (hs.below hb) (by have := Mat.mayM_len hm; omega) (by rw [hP]; omega)))
  rw [hP] at cP
  have cD := hid (fun W (hb : Below w.heap.size w W) => Tryz.strconv_Itoa x.win (by omega) (by omega) W (ht.later hb))
  rw [itoa_win (by omega), hD] at cD
  have cA := hid (fun W b (hmp : MapAt aggMap W b) => written_any aggMap b x.agg.toNat W hmp _ (agg_own ha).1 (agg_own ha).2)
  rw [hA] at cA
  have cC := hid (fun W b (hmp : MapAt cmpMap W b) => written_any cmpMap b x.cmp.toNat W hmp _ (cmp_own hc).1 (cmp_own hc).2)
  rw [hC] at cC
  have cU := hid (fun W (hb : Below w.heap.size w W) => Num.print_any x.val W (ht.later hb))
  rw [hU] at cU
  have k1 : (9223372036854775807 < P.length + 1) = False := eq_false (by omega)
  have k2 : (9223372036854775807 < P.length + 1 + D.length) = False := eq_false (by omega)
  have k3 : (9223372036854775807 < P.length + 1 + D.length + 1) = False := eq_false (by omega)
  have k4 : (9223372036854775807 < A.length + 1) = False := eq_false (by omega)
  have k5 : (9223372036854775807 < A.length + 1 + Z.length) = False := eq_false (by omega)
  have k6 : (9223372036854775807 < A.length + 1 + Z.length + 2) = False := eq_false (by omega)
  have k7 : (9223372036854775807 < A.length + 1 + Z.length + 2 + C.length) = False := eq_false (by omega)
  have k8 : (9223372036854775807 < A.length + 1 + Z.length + 2 + C.length + 1) = False := eq_false (by omega)
  have k9 : (9223372036854775807 < A.length + 1 + Z.length + 2 + C.length + 1 + U.length) = False := eq_false (by omega)
  have hb0 := hid (alloc_below w (.cells #[.int .u8 (x.kind.toNat : Int), .int .u8 (x.agg.toNat : Int), .slice sa x.sel.length sc, .int .i64 x.win, .int .u8 (x.cmp.toNat : Int), .int .i64 x.val, .int .i64 x.left, .int .i64 x.right] 31))
  have hbx := new_block w (.cells #[.int .u8 (x.kind.toNat : Int), .int .u8 (x.agg.toNat : Int), .slice sa x.sel.length sc, .int .i64 x.win, .int .u8 (x.cmp.toNat : Int), .int .i64 x.val, .int .i64 x.left, .int .i64 x.right] 31)
  obtain ⟨V, hV⟩ : ∃ V, w.alloc (.cells #[.int .u8 (x.kind.toNat : Int), .int .u8 (x.agg.toNat : Int), .slice sa x.sel.length sc, .int .i64 x.win, .int .u8 (x.cmp.toNat : Int), .int .i64 x.val, .int .i64 x.left, .int .i64 x.right] 31) = V := ⟨_, rfl⟩
  rw [hV] at hb0 hbx
  replace hV := hid hV
  have hcells : Hid (∀ W', Below V.heap.size V W' → (W'.cell? ⟨w.heap.size, 2, none⟩ = some (.slice sa x.sel.length sc) ∧ W'.cell? ⟨w.heap.size, 3, none⟩ = some (.int .i64 x.win)) ∧ W'.cell? ⟨w.heap.size, 1, none⟩ = some (.int .u8 (x.agg.toNat : Int)) ∧ W'.cell? ⟨w.heap.size, 4, none⟩ = some (.int .u8 (x.cmp.toNat : Int)) ∧ W'.cell? ⟨w.heap.size, 5, none⟩ = some (.int .i64 x.val)) := fun W' hb => by
    have hx := (hb.block _ (lt_of_block hbx)).trans hbx
    exact ⟨⟨by rw [cell_of hx]; rfl, by rw [cell_of hx]; rfl⟩, by rw [cell_of hx]; rfl, by rw [cell_of hx]; rfl, by rw [cell_of hx]; rfl⟩
  have hlow := hid (fun W' (hb : Below V.heap.size V W') => low2 hb0.out hb)
  clear hs ht ha hc hm h1 h2 hP hD hA hC hU hZ hbx hb0
  unfold ndAgg str at *
  go_enter Tryz.func46, Tryz.ntmps46
  go_wp2_with fail
  rw [hV.out]
  clear hV
  obtain ⟨⟨x2, x3⟩, -⟩ := hcells.out V (Below.refl _ _)
  go_region_held3 (fun w' => w'.cell? ⟨w.heap.size, 2, none⟩ = some (.slice sa x.sel.length sc) ∧ w'.cell? ⟨w.heap.size, 3, none⟩ = some (.int .i64 x.win)) (go_keep) (first | (go_at_call 64; refine (cP.out _ (hlow.out _ (below_drew (Below.refl _ _)))).mono ?_; rintro e W1 ⟨rfl, b1⟩; have B1 := hid (low2 (below_drew (Below.refl V.heap.size V)) b1); obtain ⟨⟨j2, j3⟩, -⟩ := hcells.out _ B1.out; clear b1) | (go_at_call 65; refine (cD.out _ (hlow.out _ B1.out)).mono ?_; rintro e W2 ⟨rfl, q, os, hW2⟩; have B2 := hid (low2 B1.out (hW2 ▸ Lib.below_grow _ _ (Nat.le_refl _) q os : Below W1.heap.size W1 W2)); obtain ⟨⟨i2, i3⟩, -⟩ := hcells.out _ B2.out; clear hW2))
  all_goals
    rw [hz.out]
    have hcl2 := hid (fun W' hb => (hcells.out W' hb).2)
    clear hcells cP cD k1 k2 k3 hz
    obtain ⟨y1, y4, y5⟩ := hcl2.out _ B2.out
    go_wp2_with fail
    go_region_held3 (fun w' => w'.cell? ⟨w.heap.size, 1, none⟩ = some (.int .u8 (x.agg.toNat : Int)) ∧ w'.cell? ⟨w.heap.size, 4, none⟩ = some (.int .u8 (x.cmp.toNat : Int)) ∧ w'.cell? ⟨w.heap.size, 5, none⟩ = some (.int .i64 x.val)) (go_keep) (first
      | (go_at_call 67; refine (aggregates_any _).mono ?_; rintro e W3 ⟨bm, rfl, -, hma, b3⟩; have B3 := hid (low2 (low2 B2.out (below_drew (Below.refl W2.heap.size W2))) b3); have MA := hid hma; obtain ⟨z1, z4, z5⟩ := hcl2.out _ B3.out; clear b3 hma)
      | (go_at_call 66; refine (cA.out _ _ MA.out).mono ?_; rintro e W4 ⟨rfl, b4⟩; have B4 := hid (low2 B3.out b4); obtain ⟨p1, p4, p5⟩ := hcl2.out _ B4.out; clear b4 MA)
      | (go_at_call 68; refine (compares_any _).mono ?_; rintro e W5 ⟨bn, rfl, -, hmc, b5⟩; have B5 := hid (low2 B4.out b5); have MC := hid hmc; obtain ⟨r1, r4, r5⟩ := hcl2.out _ B5.out; clear b5 hmc)
      | (go_at_call 66; refine (cC.out _ _ MC.out).mono ?_; rintro e W6 ⟨rfl, b6⟩; have B6 := hid (low2 B5.out b6); obtain ⟨s1, s4, s5⟩ := hcl2.out _ B6.out; clear b6 MC)
      | (go_at_call 69; refine (cU.out _ (hlow.out _ B6.out)).mono ?_; rintro e W7 ⟨rfl, b7⟩; have B7 := hid (low2 B6.out b7); obtain ⟨t1, t4, t5⟩ := hcl2.out _ B7.out; clear b7))
    all_goals
      rw [hfin.out]
      go_wp2
      go_ret
      exact ⟨rfl, hlow.out _ B7.out⟩
end Go.Proofs.YtjhodmpgggaknaaGreatDoor
/- Contract of text. -/
namespace Go.Proofs.YtjhodmpgggaknaaGreatDoor
open Go.RowKit Go.Shelf Go.Maps

theorem ptxC_le (c : Cm) (h : okC c) : (ptxC c).length ≤ 700 := by
  have h1 := print_le h.2.2.1
  have h2 := aggS_le c.agg.toNat
  have h3 := cmpS_le c.cmp.toNat
  have h4 := Num.print_len c.val
  have h5 : (Lib.decDigits c.win.toNat).length ≤ 20 := Num.dec_len _ (by have := h.2.2.2.2.1; omega)
  unfold ptxC
  simp only [List.length_append, List.length_cons]
  omega
theorem ptx_le : ∀ (t : Tree) (n : Nat), okT t → (ptx n t).length ≤ 700 * t.size
  | .leaf c, _, h => by rw [ptx, Tree.size]; exact ptxC_le c h
  | .neg t, _, h => by
    have := ptx_le t 2 h
    rw [ptx, Tree.size]
    simp only [List.length_append, List.length_cons, List.length_nil]
    omega
  | .bin o l r, n, h => by
    have h1 := ptx_le l (lvl o) h.1
    have h2 := ptx_le r (lvl o + 1) h.2
    have h3 : (opW o).length ≤ 3 := by cases o <;> decide
    rw [ptx, Tree.size]
    unfold parens
    split
    · simp only [List.length_append, List.length_cons, List.length_nil]
      omega
    · simp only [List.length_append, List.length_cons]
      omega
def AtN (ns : List Nd) (b : Nat) (l : List Nd) : Prop := ∀ i x, l[i]? = some x → ns[b + i]? = some x
theorem AtN.left {ns : List Nd} {b : Nat} {l m : List Nd} (h : AtN ns b (l ++ m)) : AtN ns b l := fun i x hx => h i x (by rw [List.getElem?_append_left (List.getElem?_eq_some_iff.1 hx).1]; exact hx)
theorem AtN.right {ns : List Nd} {b c : Nat} {l m : List Nd} (h : AtN ns b (l ++ m)) (hc : c = b + l.length) : AtN ns c m := fun i x hx => by
  have := h (l.length + i) x (by rw [List.getElem?_append_right (Nat.le_add_right _ _)]; simpa using hx)
  rw [hc, Nat.add_assoc]
  exact this
def TxtPost (n : Nat) (t : Tree) (W : World) (e : Ending) (w' : World) : Prop := e = .returned (str (ptx n t)) ∧ Below W.heap.size W w'
/-- what a call meets: the node, and where it lies. -/
theorem node_at {w W : World} {a : Option Addr} {c : Nat} {ns : List Nd} (h : IsN w (.slice a ns.length c) ns) (hb : Below w.heap.size w W) {m : Nat} {x : Nd} (hx : ns[m]? = some x) : ∃ b off sa sc, a = some ⟨b, off, none⟩ ∧ m < ns.length ∧ Cells8 W b (off + m * 8) x (.slice sa x.sel.length sc) ∧ Mat.IsMs W (.slice sa x.sel.length sc) x.sel := by
  have hm := (List.getElem?_eq_some_iff.1 hx).1
  obtain ⟨b, off, rfl, hcs⟩ := (h.below hb).at hm
  obtain ⟨s, h1, h2⟩ := hcs m x hx
  obtain ⟨sa, sc, rfl⟩ := h2.slice
  exact ⟨b, off, sa, sc, rfl, hm, h1, h2⟩
set_option maxRecDepth 100000 in
set_option maxHeartbeats 4000000 in
theorem text_leaf {w W : World} {v : Value} {ns : List Nd} (h : IsN w v ns) (hO : EnvO w) (ht : Num.Tab w) (hb : Below w.heap.size w W) {m : Nat} {cm : Cm} {x : Nd} (hxc : x = cmpNd cm) (hx : ns[m]? = some x) (hok : okC cm) (n : Nat) :
    Calls Tryz.prog 26 #[v, .int .i64 (m : Int), .int .i64 (n : Int)] W (TxtPost n (.leaf cm) W) := by
  have hk : x.kind = 0 := by rw [hxc]; rfl
  obtain ⟨a, c, rfl⟩ := h.slice
  obtain ⟨-, hc1, hc2⟩ := h.bound
  obtain ⟨b, off, sa, sc, rfl, hm, ⟨x0, x1, x2, x3, x4, x5, x6, x7⟩, hms⟩ := node_at h hb hx
  have hst := hid (fun W' (hb' : Below W.heap.size W W') => (strength_any 0 W' ((hO.below hb).below hb')))
  rw [show strN 0 = 2 from rfl] at hst
  have hal := alloc_below W (.cells #[.int .u8 0, .int .u8 (x.agg.toNat : Int), .slice sa x.sel.length sc, .int .i64 x.win, .int .u8 (x.cmp.toNat : Int), .int .i64 x.val, .int .i64 x.left, .int .i64 x.right] 31)
  have hbx := new_block W (.cells #[.int .u8 0, .int .u8 (x.agg.toNat : Int), .slice sa x.sel.length sc, .int .i64 x.win, .int .u8 (x.cmp.toNat : Int), .int .i64 x.val, .int .i64 x.left, .int .i64 x.right] 31)
  obtain ⟨V, hV⟩ : ∃ V, W.alloc (.cells #[.int .u8 0, .int .u8 (x.agg.toNat : Int), .slice sa x.sel.length sc, .int .i64 x.win, .int .u8 (x.cmp.toNat : Int), .int .i64 x.val, .int .i64 x.left, .int .i64 x.right] 31) = V := ⟨_, rfl⟩
  rw [hV] at hal hbx
  replace hV := hid hV
  replace hst := hid (hst.out V hal)
  rw [hk] at x0
  have hcm : Hid (∀ W', Below W.heap.size W W' → Calls Tryz.prog 46 #[ndAgg x (.slice sa x.sel.length sc)] W' fun e w' => e = .returned (str (ptxC cm)) ∧ Below W'.heap.size W' w') := fun W' hb' => by
    have := comp_any x _ W' (hms.below hb') (ht.later (low2 hb hb')) (by rw [hxc]; exact hok.1) (by rw [hxc]; exact hok.2.1) (by rw [hxc]; exact hok.2.2.1) (by rw [hxc]; exact hok.2.2.2.1) (by rw [hxc]; exact hok.2.2.2.2.1)
    rw [show (⟨x.agg, x.sel, x.win, x.cmp, x.val⟩ : Cm) = cm by rw [hxc]; rfl] at this
    exact this
  unfold ndAgg at hcm
  rw [hk] at hcm
  clear hms hb hO ht hx hok hk h hxc
  replace hal := hid hal
  replace hbx := hid hbx
  go_enter Tryz.func26, Tryz.ntmps26
  go_wp2_with fail
  rw [hV.out]
  clear hV x0 x1 x2 x3 x4 x5 x6 x7
  refine hst.out.mono ?_
  rintro e W1 ⟨rfl, b1⟩
  have B1 := hid (low2 hal.out b1)
  have hcells := hid (fun W' (hb' : Below W1.heap.size W1 W') => (hb'.block _ (Nat.lt_of_lt_of_le (lt_of_block hbx.out) b1.size)).trans ((b1.block _ (lt_of_block hbx.out)).trans hbx.out))
  have hx1 := hcells.out W1 (Below.refl _ _)
  have x0 := cell_of hx1 0
  have x1 := cell_of hx1 1
  have x2 := cell_of hx1 2
  have x3 := cell_of hx1 3
  have x4 := cell_of hx1 4
  have x5 := cell_of hx1 5
  have x6 := cell_of hx1 6
  have x7 := cell_of hx1 7
  simp at x0 x1 x2 x3 x4 x5 x6 x7
  clear hx1 b1 hst hbx hal
  replace hcm := hid (hcm.out W1 B1.out)
  go_wp2_with fail
  refine hcm.out.mono ?_
  rintro e W2 ⟨rfl, b2⟩
  have B2 := hid (low2 B1.out b2)
  clear b2 hcm hcells
  unfold str
  go_wp2
  go_ret
  exact ⟨rfl, B2.out⟩
set_option maxRecDepth 100000 in
set_option maxHeartbeats 4000000 in
theorem text_neg {w W : World} {v : Value} {ns : List Nd} (h : IsN w v ns) (hO : EnvO w) (hb : Below w.heap.size w W) {m : Nat} {t : Tree} {x : Nd} (hk : x.kind = 3) (hx : ns[m]? = some x) (hl : (ptx 2 t).length ≤ 100000) (n : Nat)
    (IH : ∀ W', Below w.heap.size w W' → Calls Tryz.prog 26 #[v, .int .i64 x.left, .int .i64 2] W' (TxtPost 2 t W')) :
    Calls Tryz.prog 26 #[v, .int .i64 (m : Int), .int .i64 (n : Int)] W (TxtPost n (.neg t) W) := by
  obtain ⟨a, c, rfl⟩ := h.slice
  obtain ⟨-, hc1, hc2⟩ := h.bound
  obtain ⟨b, off, sa, sc, rfl, hm, ⟨x0, x1, x2, x3, x4, x5, x6, x7⟩, hms⟩ := node_at h hb hx
  have hst := hid (fun W' (hb' : Below W.heap.size W W') => (strength_any 3 W' ((hO.below hb).below hb')))
  rw [show strN 3 = 2 from rfl] at hst
  have hal := alloc_below W (.cells #[.int .u8 3, .int .u8 (x.agg.toNat : Int), .slice sa x.sel.length sc, .int .i64 x.win, .int .u8 (x.cmp.toNat : Int), .int .i64 x.val, .int .i64 x.left, .int .i64 x.right] 31)
  have hbx := new_block W (.cells #[.int .u8 3, .int .u8 (x.agg.toNat : Int), .slice sa x.sel.length sc, .int .i64 x.win, .int .u8 (x.cmp.toNat : Int), .int .i64 x.val, .int .i64 x.left, .int .i64 x.right] 31)
  obtain ⟨V, hV⟩ : ∃ V, W.alloc (.cells #[.int .u8 3, .int .u8 (x.agg.toNat : Int), .slice sa x.sel.length sc, .int .i64 x.win, .int .u8 (x.cmp.toNat : Int), .int .i64 x.val, .int .i64 x.left, .int .i64 x.right] 31) = V := ⟨_, rfl⟩
  rw [hV] at hal hbx
  replace hV := hid hV
  replace hst := hid (hst.out V hal)
  rw [hk] at x0
  have ih := hid (fun W' (hb' : Below W.heap.size W W') => IH W' (low2 hb hb'))
  clear hms hb hO hx hk h IH
  replace hal := hid hal
  replace hbx := hid hbx
  go_enter Tryz.func26, Tryz.ntmps26
  go_wp2_with fail
  rw [hV.out]
  clear hV x0 x1 x2 x3 x4 x5 x6 x7
  refine hst.out.mono ?_
  rintro e W1 ⟨rfl, b1⟩
  have B1 := hid (low2 hal.out b1)
  have hcells := hid (fun W' (hb' : Below W1.heap.size W1 W') => (hb'.block _ (Nat.lt_of_lt_of_le (lt_of_block hbx.out) b1.size)).trans ((b1.block _ (lt_of_block hbx.out)).trans hbx.out))
  have hx1 := hcells.out W1 (Below.refl _ _)
  have x0 := cell_of hx1 0
  have x1 := cell_of hx1 1
  have x2 := cell_of hx1 2
  have x3 := cell_of hx1 3
  have x4 := cell_of hx1 4
  have x5 := cell_of hx1 5
  have x6 := cell_of hx1 6
  have x7 := cell_of hx1 7
  simp at x0 x1 x2 x3 x4 x5 x6 x7
  clear hx1 b1 hst hbx hal
  replace ih := hid (ih.out W1 B1.out)
  obtain ⟨T, hT⟩ : ∃ T, ptx 2 t = T := ⟨_, rfl⟩
  have hpost : Hid (ptx n (.neg t) = [110, 111, 116, 32] ++ T) := by show _ = _; rw [ptx, hT]
  unfold TxtPost at ih
  rw [hT] at ih hl
  clear hT
  have k1 : (9223372036854775807 < 4 + T.length) = False := eq_false (by omega)
  unfold str at ih
  go_wp2_with fail
  refine ih.out.mono ?_
  rintro e W2 ⟨rfl, b2⟩
  have B2 := hid (low2 B1.out b2)
  clear b2 ih hcells
  go_wp2
  go_ret
  refine ⟨?_, B2.out⟩
  rw [hpost.out, show (⟨#[110, 111, 116, 32]⟩ : ByteArray) = ⟨([110, 111, 116, 32] : Tx).toArray⟩ from rfl, app_str]
  rfl
end Go.Proofs.YtjhodmpgggaknaaGreatDoor
/- Contract of text at an operator. -/
namespace Go.Proofs.YtjhodmpgggaknaaGreatDoor
open Go.RowKit Go.Shelf Go.Maps

set_option maxRecDepth 100000 in
set_option maxHeartbeats 4000000 in
theorem text_binA {w W : World} {v : Value} {ns : List Nd} (h : IsN w v ns) (hO : EnvO w) (hb : Below w.heap.size w W) {m : Nat} {l r : Tree} {x : Nd} (hk : x.kind = 1) (hx : ns[m]? = some x) (hl : (ptx 1 l).length ≤ 100000) (hr : (ptx 2 r).length ≤ 100000) (n : Nat)
    (IHl : ∀ W', Below w.heap.size w W' → Calls Tryz.prog 26 #[v, .int .i64 x.left, .int .i64 1] W' (TxtPost 1 l W'))
    (IHr : ∀ W', Below w.heap.size w W' → Calls Tryz.prog 26 #[v, .int .i64 x.right, .int .i64 2] W' (TxtPost 2 r W')) :
    Calls Tryz.prog 26 #[v, .int .i64 (m : Int), .int .i64 (n : Int)] W (TxtPost n (.bin false l r) W) := by
  obtain ⟨a, c, rfl⟩ := h.slice
  obtain ⟨-, hc1, hc2⟩ := h.bound
  obtain ⟨b, off, sa, sc, rfl, hm, ⟨x0, x1, x2, x3, x4, x5, x6, x7⟩, hms⟩ := node_at h hb hx
  have hst := hid (fun W' (hb' : Below W.heap.size W W') => (strength_any 1 W' ((hO.below hb).below hb')))
  rw [show strN 1 = 1 from rfl] at hst
  have hal := alloc_below W (.cells #[.int .u8 1, .int .u8 (x.agg.toNat : Int), .slice sa x.sel.length sc, .int .i64 x.win, .int .u8 (x.cmp.toNat : Int), .int .i64 x.val, .int .i64 x.left, .int .i64 x.right] 31)
  have hbx := new_block W (.cells #[.int .u8 1, .int .u8 (x.agg.toNat : Int), .slice sa x.sel.length sc, .int .i64 x.win, .int .u8 (x.cmp.toNat : Int), .int .i64 x.val, .int .i64 x.left, .int .i64 x.right] 31)
  obtain ⟨V, hV⟩ : ∃ V, W.alloc (.cells #[.int .u8 1, .int .u8 (x.agg.toNat : Int), .slice sa x.sel.length sc, .int .i64 x.win, .int .u8 (x.cmp.toNat : Int), .int .i64 x.val, .int .i64 x.left, .int .i64 x.right] 31) = V := ⟨_, rfl⟩
  rw [hV] at hal hbx
  replace hV := hid hV
  replace hst := hid (hst.out V hal)
  rw [hk] at x0
  have ihl := hid (fun W' (hb' : Below W.heap.size W W') => IHl W' (low2 hb hb'))
  have ihr := hid (fun W' (hb' : Below W.heap.size W W') => IHr W' (low2 hb hb'))
  have hop := hid (fun W' (hb' : Below W.heap.size W W') => ((hO.below hb).below hb').c2)
  clear hms hb hO hx hk h IHl IHr
  replace hal := hid hal
  replace hbx := hid hbx
  go_enter Tryz.func26, Tryz.ntmps26
  go_wp2_with fail
  rw [hV.out]
  clear hV x0 x1 x2 x3 x4 x5 x6 x7
  refine hst.out.mono ?_
  rintro e W1 ⟨rfl, b1⟩
  have B1 := hid (low2 hal.out b1)
  have hcells := hid (fun W' (hb' : Below W1.heap.size W1 W') => (hb'.block _ (Nat.lt_of_lt_of_le (lt_of_block hbx.out) b1.size)).trans ((b1.block _ (lt_of_block hbx.out)).trans hbx.out))
  have hx1 := hcells.out W1 (Below.refl _ _)
  have x0 := cell_of hx1 0
  have x1 := cell_of hx1 1
  have x2 := cell_of hx1 2
  have x3 := cell_of hx1 3
  have x4 := cell_of hx1 4
  have x5 := cell_of hx1 5
  have x6 := cell_of hx1 6
  have x7 := cell_of hx1 7
  simp at x0 x1 x2 x3 x4 x5 x6 x7
  clear hx1 b1 hst hbx hal
  obtain ⟨T, hT⟩ : ∃ T, ptx 1 l = T := ⟨_, rfl⟩
  obtain ⟨U, hU⟩ : ∃ U, ptx 2 r = U := ⟨_, rfl⟩
  obtain ⟨Z, hZ⟩ : ∃ Z : Tx, T ++ (32 :: ([97, 110, 100] ++ (32 :: U))) = Z := ⟨_, rfl⟩
  have hpost : Hid (ptx n (.bin false l r) = parens (decide (1 < n)) Z) := by
    show _ = _
    rw [ptx, ← hZ, ← hT, ← hU]
    rfl
  unfold TxtPost at ihl ihr
  rw [hT] at ihl hl
  rw [hU] at ihr hr
  have lZ : Z.length ≤ 300000 := by rw [← hZ]; simp; omega
  have hz : Hid ((⟨T.toArray⟩ : ByteArray) ++ ⟨#[32]⟩ ++ ⟨#[97, 110, 100]⟩ ++ ⟨#[32]⟩ ++ ⟨U.toArray⟩ = ⟨Z.toArray⟩) := by
    show _ = _
    rw [show (⟨#[32]⟩ : ByteArray) = ⟨([32] : Tx).toArray⟩ from rfl, show (⟨#[97, 110, 100]⟩ : ByteArray) = ⟨([97, 110, 100] : Tx).toArray⟩ from rfl, app_str, app_str, app_str, app_str, ← hZ]
    simp
  clear hT hU hZ
  have k1 : (9223372036854775807 < T.length + 1) = False := eq_false (by omega)
  have k2 : (9223372036854775807 < T.length + 1 + 3) = False := eq_false (by omega)
  have k3 : (9223372036854775807 < T.length + 1 + 3 + 1) = False := eq_false (by omega)
  have k4 : (9223372036854775807 < T.length + 1 + 3 + 1 + U.length) = False := eq_false (by omega)
  have k5 : (9223372036854775807 < 1 + Z.length) = False := eq_false (by omega)
  have k6 : (9223372036854775807 < 1 + Z.length + 1) = False := eq_false (by omega)
  have hcell2 := hid (fun W' (hb' : Below W1.heap.size W1 W') => show W'.cell? ⟨W.heap.size, 6, none⟩ = some (.int .i64 x.left) ∧ W'.cell? ⟨W.heap.size, 7, none⟩ = some (.int .i64 x.right) ∧ W'.cell? ⟨0, 2, none⟩ = some (.string ⟨#[97, 110, 100]⟩) from ⟨by rw [cell_of (hcells.out W' hb')]; rfl, by rw [cell_of (hcells.out W' hb')]; rfl, hop.out W' (low2 B1.out hb')⟩)
  obtain ⟨y6, y7, yo⟩ := hcell2.out W1 (Below.refl _ _)
  clear hcells hop y6 y7
  unfold str at ihl ihr
  go_wp2_with fail
  go_region_held3 (fun w' => w'.cell? ⟨W.heap.size, 6, none⟩ = some (.int .i64 x.left) ∧ w'.cell? ⟨W.heap.size, 7, none⟩ = some (.int .i64 x.right) ∧ w'.cell? ⟨0, 2, none⟩ = some (.string ⟨#[97, 110, 100]⟩)) (go_keep) (first
    | (go_at_call 26; refine (ihl.out _ (low2 B1.out (below_drew (Below.refl W1.heap.size W1)))).mono ?_; rintro e W2 ⟨rfl, b2⟩; have B2 := hid (low2 (below_drew (Below.refl W1.heap.size W1)) b2); obtain ⟨j6, j7, jo⟩ := hcell2.out _ B2.out; clear b2 ihl)
    | (go_at_call 26; refine (ihr.out _ (low2 B1.out B2.out)).mono ?_; rintro e W3 ⟨rfl, b3⟩; have B3 := hid (low2 B2.out b3); obtain ⟨i6, i7, io⟩ := hcell2.out _ B3.out; clear b3 ihr))
  all_goals
    rw [hz.out]
    have B4 := hid (low2 B1.out B3.out)
    clear hcell2 hz k1 k2 k3 k4 hl hr
    by_cases hn : 1 < n
    · have q : decide ((1 : Int) < (n : Int)) = true := decide_eq_true (by omega)
      have hp : Hid (ptx n (.bin false l r) = 40 :: (Z ++ [41])) := by show _ = _; rw [hpost.out, decide_eq_true hn]; rfl
      go_wp2
      go_ret
      refine ⟨?_, B4.out⟩
      rw [hp.out, show (⟨#[40]⟩ : ByteArray) = ⟨([40] : Tx).toArray⟩ from rfl, show (⟨#[41]⟩ : ByteArray) = ⟨([41] : Tx).toArray⟩ from rfl, app_str, app_str]
      rfl
    · have q : decide ((1 : Int) < (n : Int)) = false := decide_eq_false (by omega)
      have hp : Hid (ptx n (.bin false l r) = Z) := by show _ = _; rw [hpost.out, decide_eq_false hn]; rfl
      go_wp2
      go_ret
      refine ⟨?_, B4.out⟩
      rw [hp.out]
      rfl
set_option maxRecDepth 100000 in
set_option maxHeartbeats 4000000 in
theorem text_binO {w W : World} {v : Value} {ns : List Nd} (h : IsN w v ns) (hO : EnvO w) (hb : Below w.heap.size w W) {m : Nat} {l r : Tree} {x : Nd} (hk : x.kind = 2) (hx : ns[m]? = some x) (hl : (ptx 0 l).length ≤ 100000) (hr : (ptx 1 r).length ≤ 100000) (n : Nat)
    (IHl : ∀ W', Below w.heap.size w W' → Calls Tryz.prog 26 #[v, .int .i64 x.left, .int .i64 0] W' (TxtPost 0 l W'))
    (IHr : ∀ W', Below w.heap.size w W' → Calls Tryz.prog 26 #[v, .int .i64 x.right, .int .i64 1] W' (TxtPost 1 r W')) :
    Calls Tryz.prog 26 #[v, .int .i64 (m : Int), .int .i64 (n : Int)] W (TxtPost n (.bin true l r) W) := by
  obtain ⟨a, c, rfl⟩ := h.slice
  obtain ⟨-, hc1, hc2⟩ := h.bound
  obtain ⟨b, off, sa, sc, rfl, hm, ⟨x0, x1, x2, x3, x4, x5, x6, x7⟩, hms⟩ := node_at h hb hx
  have hst := hid (fun W' (hb' : Below W.heap.size W W') => (strength_any 2 W' ((hO.below hb).below hb')))
  rw [show strN 2 = 0 from rfl] at hst
  have hal := alloc_below W (.cells #[.int .u8 2, .int .u8 (x.agg.toNat : Int), .slice sa x.sel.length sc, .int .i64 x.win, .int .u8 (x.cmp.toNat : Int), .int .i64 x.val, .int .i64 x.left, .int .i64 x.right] 31)
  have hbx := new_block W (.cells #[.int .u8 2, .int .u8 (x.agg.toNat : Int), .slice sa x.sel.length sc, .int .i64 x.win, .int .u8 (x.cmp.toNat : Int), .int .i64 x.val, .int .i64 x.left, .int .i64 x.right] 31)
  obtain ⟨V, hV⟩ : ∃ V, W.alloc (.cells #[.int .u8 2, .int .u8 (x.agg.toNat : Int), .slice sa x.sel.length sc, .int .i64 x.win, .int .u8 (x.cmp.toNat : Int), .int .i64 x.val, .int .i64 x.left, .int .i64 x.right] 31) = V := ⟨_, rfl⟩
  rw [hV] at hal hbx
  replace hV := hid hV
  replace hst := hid (hst.out V hal)
  rw [hk] at x0
  have ihl := hid (fun W' (hb' : Below W.heap.size W W') => IHl W' (low2 hb hb'))
  have ihr := hid (fun W' (hb' : Below W.heap.size W W') => IHr W' (low2 hb hb'))
  have hop := hid (fun W' (hb' : Below W.heap.size W W') => ((hO.below hb).below hb').c0)
  clear hms hb hO hx hk h IHl IHr
  replace hal := hid hal
  replace hbx := hid hbx
  go_enter Tryz.func26, Tryz.ntmps26
  go_wp2_with fail
  rw [hV.out]
  clear hV x0 x1 x2 x3 x4 x5 x6 x7
  refine hst.out.mono ?_
  rintro e W1 ⟨rfl, b1⟩
  have B1 := hid (low2 hal.out b1)
  have hcells := hid (fun W' (hb' : Below W1.heap.size W1 W') => (hb'.block _ (Nat.lt_of_lt_of_le (lt_of_block hbx.out) b1.size)).trans ((b1.block _ (lt_of_block hbx.out)).trans hbx.out))
  have hx1 := hcells.out W1 (Below.refl _ _)
  have x0 := cell_of hx1 0
  have x1 := cell_of hx1 1
  have x2 := cell_of hx1 2
  have x3 := cell_of hx1 3
  have x4 := cell_of hx1 4
  have x5 := cell_of hx1 5
  have x6 := cell_of hx1 6
  have x7 := cell_of hx1 7
  simp at x0 x1 x2 x3 x4 x5 x6 x7
  clear hx1 b1 hst hbx hal
  obtain ⟨T, hT⟩ : ∃ T, ptx 0 l = T := ⟨_, rfl⟩
  obtain ⟨U, hU⟩ : ∃ U, ptx 1 r = U := ⟨_, rfl⟩
  obtain ⟨Z, hZ⟩ : ∃ Z : Tx, T ++ (32 :: ([111, 114] ++ (32 :: U))) = Z := ⟨_, rfl⟩
  have hpost : Hid (ptx n (.bin true l r) = parens (decide (0 < n)) Z) := by
    show _ = _
    rw [ptx, ← hZ, ← hT, ← hU]
    rfl
  unfold TxtPost at ihl ihr
  rw [hT] at ihl hl
  rw [hU] at ihr hr
  have lZ : Z.length ≤ 300000 := by rw [← hZ]; simp; omega
  have hz : Hid ((⟨T.toArray⟩ : ByteArray) ++ ⟨#[32]⟩ ++ ⟨#[111, 114]⟩ ++ ⟨#[32]⟩ ++ ⟨U.toArray⟩ = ⟨Z.toArray⟩) := by
    show _ = _
    rw [show (⟨#[32]⟩ : ByteArray) = ⟨([32] : Tx).toArray⟩ from rfl, show (⟨#[111, 114]⟩ : ByteArray) = ⟨([111, 114] : Tx).toArray⟩ from rfl, app_str, app_str, app_str, app_str, ← hZ]
    simp
  clear hT hU hZ
  have k1 : (9223372036854775807 < T.length + 1) = False := eq_false (by omega)
  have k2 : (9223372036854775807 < T.length + 1 + 2) = False := eq_false (by omega)
  have k3 : (9223372036854775807 < T.length + 1 + 2 + 1) = False := eq_false (by omega)
  have k4 : (9223372036854775807 < T.length + 1 + 2 + 1 + U.length) = False := eq_false (by omega)
  have k5 : (9223372036854775807 < 1 + Z.length) = False := eq_false (by omega)
  have k6 : (9223372036854775807 < 1 + Z.length + 1) = False := eq_false (by omega)
  have hcell2 := hid (fun W' (hb' : Below W1.heap.size W1 W') => show W'.cell? ⟨W.heap.size, 6, none⟩ = some (.int .i64 x.left) ∧ W'.cell? ⟨W.heap.size, 7, none⟩ = some (.int .i64 x.right) ∧ W'.cell? ⟨0, 0, none⟩ = some (.string ⟨#[111, 114]⟩) from ⟨by rw [cell_of (hcells.out W' hb')]; rfl, by rw [cell_of (hcells.out W' hb')]; rfl, hop.out W' (low2 B1.out hb')⟩)
  obtain ⟨y6, y7, yo⟩ := hcell2.out W1 (Below.refl _ _)
  clear hcells hop y6 y7
  unfold str at ihl ihr
  go_wp2_with fail
  go_region_held3 (fun w' => w'.cell? ⟨W.heap.size, 6, none⟩ = some (.int .i64 x.left) ∧ w'.cell? ⟨W.heap.size, 7, none⟩ = some (.int .i64 x.right) ∧ w'.cell? ⟨0, 0, none⟩ = some (.string ⟨#[111, 114]⟩)) (go_keep) (first
    | (go_at_call 26; refine (ihl.out _ (low2 B1.out (below_drew (Below.refl W1.heap.size W1)))).mono ?_; rintro e W2 ⟨rfl, b2⟩; have B2 := hid (low2 (below_drew (Below.refl W1.heap.size W1)) b2); obtain ⟨j6, j7, jo⟩ := hcell2.out _ B2.out; clear b2 ihl)
    | (go_at_call 26; refine (ihr.out _ (low2 B1.out B2.out)).mono ?_; rintro e W3 ⟨rfl, b3⟩; have B3 := hid (low2 B2.out b3); obtain ⟨i6, i7, io⟩ := hcell2.out _ B3.out; clear b3 ihr))
  all_goals
    rw [hz.out]
    have B4 := hid (low2 B1.out B3.out)
    clear hcell2 hz k1 k2 k3 k4 hl hr
    by_cases hn : 0 < n
    · have q : decide ((0 : Int) < (n : Int)) = true := decide_eq_true (by omega)
      have hp : Hid (ptx n (.bin true l r) = 40 :: (Z ++ [41])) := by show _ = _; rw [hpost.out, decide_eq_true hn]; rfl
      go_wp2
      go_ret
      refine ⟨?_, B4.out⟩
      rw [hp.out, show (⟨#[40]⟩ : ByteArray) = ⟨([40] : Tx).toArray⟩ from rfl, show (⟨#[41]⟩ : ByteArray) = ⟨([41] : Tx).toArray⟩ from rfl, app_str, app_str]
      rfl
    · have q : decide ((0 : Int) < (n : Int)) = false := decide_eq_false (by omega)
      have hp : Hid (ptx n (.bin true l r) = Z) := by show _ = _; rw [hpost.out, decide_eq_false hn]; rfl
      go_wp2
      go_ret
      refine ⟨?_, B4.out⟩
      rw [hp.out]
      rfl
theorem text_any {w : World} {v : Value} {ns : List Nd} (h : IsN w v ns) (hO : EnvO w) (ht : Num.Tab w) : ∀ (t : Tree) (b m n : Nat) (W : World), okT t → t.size ≤ 100 → AtN ns b (flat b t) → m + 1 = b + t.size → Below w.heap.size w W → Calls Tryz.prog 26 #[v, .int .i64 (m : Int), .int .i64 (n : Int)] W (TxtPost n t W)
  | .leaf c, b, m, n, W, hok, hs, hat, hm, hb => by
    refine text_leaf h hO ht hb (x := cmpNd c) rfl ?_ hok n
    have := hat 0 _ rfl
    rwa [show b + 0 = m by simp [Tree.size] at hm; omega] at this
  | .neg t, b, m, n, W, hok, hs, hat, hm, hb => by
    rw [Tree.size] at hm hs
    rw [flat] at hat
    have hx : ns[m]? = some (negNd ((b + t.size : Nat) - 1 : Int)) := by
      have := hat.right rfl 0 _ rfl
      rw [flat_len] at this
      rwa [show b + t.size + 0 = m by omega] at this
    have hp := t.pos
    refine text_neg h hO hb (x := negNd ((b + t.size : Nat) - 1 : Int)) rfl hx (by have := ptx_le t 2 hok; omega) n fun W' hb' => ?_
    have := text_any h hO ht t b (b + t.size - 1) 2 W' hok (by omega) hat.left (by omega) hb'
    rw [show ((b + t.size - 1 : Nat) : Int) = ((b + t.size : Nat) - 1 : Int) by omega] at this
    exact this
  | .bin o l r, b, m, n, W, hok, hs, hat, hm, hb => by
    rw [Tree.size] at hm hs
    rw [flat] at hat
    have hpl := l.pos
    have hpr := r.pos
    have hx : ns[m]? = some (binNd o ((b + l.size : Nat) - 1 : Int) ((b + l.size + r.size : Nat) - 1 : Int)) := by
      have := hat.right rfl 0 _ rfl
      rw [List.length_append, flat_len, flat_len] at this
      rwa [show b + (l.size + r.size) + 0 = m by omega] at this
    have hl := text_any h hO ht l b (b + l.size - 1) (lvl o)
    have hr := text_any h hO ht r (b + l.size) (b + l.size + r.size - 1) (lvl o + 1)
    have hL : ∀ W', Below w.heap.size w W' → _ := fun W' hb' => hl W' hok.1 (by omega) hat.left.left (by omega) hb'
    have hR : ∀ W', Below w.heap.size w W' → _ := fun W' hb' => hr W' hok.2 (by omega) (hat.left.right (by rw [flat_len])) (by omega) hb'
    rw [show ((b + l.size - 1 : Nat) : Int) = ((b + l.size : Nat) - 1 : Int) by omega] at hL
    rw [show ((b + l.size + r.size - 1 : Nat) : Int) = ((b + l.size + r.size : Nat) - 1 : Int) by omega] at hR
    cases o
    · exact text_binA h hO hb (x := binNd false _ _) rfl hx (by have := ptx_le l 1 hok.1; omega) (by have := ptx_le r 2 hok.2; omega) n hL hR
    · exact text_binO h hO hb (x := binNd true _ _) rfl hx (by have := ptx_le l 0 hok.1; omega) (by have := ptx_le r 1 hok.2; omega) n hL hR
end Go.Proofs.YtjhodmpgggaknaaGreatDoor
/- Contract of Print. -/
namespace Go.Proofs.YtjhodmpgggaknaaGreatDoor
open Go.RowKit Go.Shelf Go.Maps

set_option maxRecDepth 100000 in
set_option maxHeartbeats 1000000 in
theorem Print_no {w : World} {v : Value} {ns : List Nd} (h : IsN w v ns) (hr : rightB ns = false) :
    Calls Tryz.prog 14 #[v] w fun e w' => e = .returned (str []) ∧ Below w.heap.size w w' := by
  have hR := hid (Right_any h)
  obtain ⟨a, c, rfl⟩ := h.slice
  rw [hr] at hR
  clear h hr
  go_enter Tryz.func14, Tryz.ntmps14
  go_wp2_with fail
  refine hR.out.mono ?_
  rintro e w1 ⟨rfl, b1⟩
  replace b1 := hid b1
  go_wp2
  go_ret
  exact ⟨rfl, b1.out⟩
set_option maxRecDepth 100000 in
set_option maxHeartbeats 1000000 in
theorem Print_yes {w : World} {v : Value} {t : Tree} (h : IsN w v (flat 0 t)) (hO : EnvO w) (ht : Num.Tab w) (hok : okT t) (hs : t.size ≤ 31) :
    Calls Tryz.prog 14 #[v] w fun e w' => e = .returned (str (ptx 0 t)) ∧ Below w.heap.size w w' := by
  have hR := hid (Right_any h)
  rw [right_flat hok hs] at hR
  have hp := t.pos
  have hl : (flat 0 t).length = t.size := flat_len t 0
  have hT := hid (fun W hb => text_any h hO ht t 0 (t.size - 1) 0 W hok (by omega) (fun i x hx => by rw [Nat.zero_add]; exact hx) (by omega) hb)
  obtain ⟨a, c, rfl⟩ := h.slice
  obtain ⟨-, hc1, hc2⟩ := h.bound
  rw [hl] at hR hT hc1 ⊢
  have hwr : IntKind.i64.wrap ((t.size : Int) - 1) = ((t.size - 1 : Nat) : Int) := by rw [IntKind.wrap_i64]; omega
  replace hT := hid hT.out
  unfold TxtPost str at *
  clear h hO ht hok hl
  go_enter Tryz.func14, Tryz.ntmps14
  go_wp2_with fail
  refine hR.out.mono ?_
  rintro e w1 ⟨rfl, b1⟩
  replace b1 := hid b1
  clear hR
  go_wp2_with fail
  refine (hT.out w1 b1.out).mono ?_
  rintro e w2 ⟨rfl, b2⟩
  have b3 := hid (low2 b1.out b2)
  clear b2 hT
  go_wp2
  go_ret
  exact ⟨rfl, b3.out⟩
end Go.Proofs.YtjhodmpgggaknaaGreatDoor
