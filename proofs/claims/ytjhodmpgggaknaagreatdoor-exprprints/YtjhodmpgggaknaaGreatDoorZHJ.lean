/- Joined: G3P G3E. -/
import Derived.Test.YtjhodmpgggaknaaGreatDoorZGP
import Derived.Test.YtjhodmpgggaknaaGreatDoorZG2
import Derived.Test.YtjhodmpgggaknaaGreatDoorZX3
import Derived.Test.YtjhodmpgggaknaaGreatDoorZSM
import Derived.Test.YtjhodmpgggaknaaGreatDoorZHI
import Derived.Deep.RegionHeld3
import Derived.BigQuiet
/- What the document's Print is asked for. -/
namespace Go.Proofs.YtjhodmpgggaknaaGreatDoor
open Go.RowKit Go.Shelf Go.Maps
def docP (ns : List Nd) : Tx := if rightB ns then txAt (textsD ns ns.length) (ns.length - 1) else []
theorem doc_no {ns : List Nd} (h : rightB ns = false) : docP ns = [] := by unfold docP; rw [h]; rfl
theorem right_get {ns : List Nd} (h : rightB ns = true) : ∃ t, okT t ∧ ns = flat 0 t ∧ t.size ≤ 31 := right_iff.1 h
theorem no_of {ns : List Nd} (h : ∀ t, okT t → ns = flat 0 t → t.size ≤ 31 → False) : rightB ns = false := by
  cases hr : rightB ns
  · rfl
  · obtain ⟨t, h1, h2, h3⟩ := right_get hr
    exact (h t h1 h2 h3).elim
theorem no_len {ns : List Nd} (h : ns.length < 1 ∨ 31 < ns.length) : rightB ns = false := no_of fun t _ h2 h3 => by
  have := t.pos
  have e := flat_len t 0
  rw [← h2] at e
  omega
theorem no_nd {ns : List Nd} {i : Nat} {x : Nd} (hx : ns[i]? = some x) (h : okNd i x = false) : rightB ns = false := no_of fun t h1 h2 h3 => by
  rw [(right_texts h1 h3 h2).1 i x hx] at h
  cases h
theorem no_long {ns : List Nd} {k : Nat} {x : Tx} (hk : k ≤ ns.length) (hx : x ∈ textsD ns k) (h : 20000 < x.length) : rightB ns = false := no_of fun t h1 h2 h3 => by
  have := (right_texts h1 h3 h2).2.1 k hk x hx
  omega
theorem doc_flat {t : Tree} (h : okT t) (hs : t.size ≤ 31) : docP (flat 0 t) = ptx 0 t := by
  unfold docP
  rw [right_flat h hs, if_pos rfl]
  exact (right_texts h hs rfl).2.2
theorem sel_any_len {x : Nd} (h : SmallN x) : (Mat.printM x.sel).length ≤ 4000000 := by
  obtain ⟨h1, h2⟩ := h
  have item : ∀ m ∈ x.sel, (Mat.itemM m).length ≤ 20000 := fun m hm => by
    have := h2 m hm
    have b := (Mat.opS_len m.2.1).2
    have c := esc_len_le m.2.2
    unfold Mat.itemM quote
    simp
    omega
  have join : ∀ (l : List Mat.Mt), (∀ m ∈ l, (Mat.itemM m).length ≤ 20000) → (Lib.join (l.map Mat.itemM) [44]).length ≤ 20001 * l.length := fun l => by
    induction l with
    | nil => intro _; simp [Lib.join]
    | cons a l ih =>
      intro h
      have h1 := h a (by simp)
      have h2 := ih (fun m hm => h m (by simp [hm]))
      cases l with
      | nil =>
        rw [List.map_singleton, Lib.join_one]
        simp
        omega
      | cons b l =>
        rw [List.map_cons, join2 (Mat.itemM a) ((b :: l).map Mat.itemM) (by simp) 44]
        simp only [List.length_append, List.length_cons] at h2 ⊢
        omega
  have := join x.sel item
  unfold Mat.printM
  simp
  omega
theorem strInfo10 : (Tryz.prog.info? 9).map (fun i => (i.zero, i.size, i.bytes)) = some (some (.string ⟨#[]⟩), 1, 16) := by kernel_rfl
theorem comp_cat (A P D C U : Tx) : (⟨A.toArray⟩ : ByteArray) ++ ⟨#[40]⟩ ++ ⟨P.toArray⟩ ++ ⟨#[91]⟩ ++ ⟨D.toArray⟩ ++ ⟨#[93, 41, 32]⟩ ++ ⟨C.toArray⟩ ++ ⟨#[32]⟩ ++ ⟨U.toArray⟩ = ⟨(A ++ (40 :: (P ++ (91 :: (D ++ (93 :: 41 :: 32 :: (C ++ (32 :: U)))))))).toArray⟩ := by
  rw [show (⟨#[40]⟩ : ByteArray) = ⟨([40] : Tx).toArray⟩ from rfl, show (⟨#[91]⟩ : ByteArray) = ⟨([91] : Tx).toArray⟩ from rfl, show (⟨#[93, 41, 32]⟩ : ByteArray) = ⟨([93, 41, 32] : Tx).toArray⟩ from rfl, show (⟨#[32]⟩ : ByteArray) = ⟨([32] : Tx).toArray⟩ from rfl, app_str, app_str, app_str, app_str, app_str, app_str, app_str, app_str]
  simp
theorem and_cat (A B : Tx) : (⟨A.toArray⟩ : ByteArray) ++ ⟨#[32, 97, 110, 100, 32]⟩ ++ ⟨B.toArray⟩ = ⟨(A ++ (32 :: 97 :: 110 :: 100 :: 32 :: B)).toArray⟩ := by
  rw [show (⟨#[32, 97, 110, 100, 32]⟩ : ByteArray) = ⟨([32, 97, 110, 100, 32] : Tx).toArray⟩ from rfl, app_str, app_str]
  simp
theorem or_cat (A B : Tx) : (⟨A.toArray⟩ : ByteArray) ++ ⟨#[32, 111, 114, 32]⟩ ++ ⟨B.toArray⟩ = ⟨(A ++ (32 :: 111 :: 114 :: 32 :: B)).toArray⟩ := by
  rw [show (⟨#[32, 111, 114, 32]⟩ : ByteArray) = ⟨([32, 111, 114, 32] : Tx).toArray⟩ from rfl, app_str, app_str]
  simp
theorem not_cat (A : Tx) : (⟨#[110, 111, 116, 32]⟩ : ByteArray) ++ ⟨A.toArray⟩ = ⟨(110 :: 111 :: 116 :: 32 :: A).toArray⟩ := by
  rw [show (⟨#[110, 111, 116, 32]⟩ : ByteArray) = ⟨([110, 111, 116, 32] : Tx).toArray⟩ from rfl, app_str]
  simp
theorem sideT_len (x : Tx) (p : Bool) : (sideT x p).length ≤ x.length + 2 := by cases p <;> simp [sideT]
theorem kind_eqD (x c : UInt8) : ((x.toNat : Int) == (c.toNat : Int)) = (x == c) := by
  by_cases h : x = c
  · simp [h]
  · have h2 : x.toNat ≠ c.toNat := fun e => h (UInt8.toNat_inj.1 e)
    rw [beq_eq_false_iff_ne.2 h, beq_eq_false_iff_ne.2 (by omega)]
theorem set_off (w : World) (b i j : Nat) (v : Value) (h : j ≠ i) : (w.setCell ⟨b, i, none⟩ v).cell? ⟨b, j, none⟩ = w.cell? ⟨b, j, none⟩ := by
  simp only [World.cell?, World.setCell, Array.getElem?_modify, if_true]
  cases w.heap[b]? with
  | none => rfl
  | some o => cases o <;> simp [Array.getElem?_setIfInBounds_ne (Ne.symm h)]
theorem isX_start (w : World) (n : Nat) : IsX (w.alloc (.cells (madeCells #[.string ⟨#[]⟩] n) 9)) w.heap.size n [] := ⟨by simp, _, World.rowIs_made w (.string ⟨#[]⟩) n 9, fun i x hx => by simp at hx⟩
theorem IsX.below {w W : World} {b n : Nat} {tx : List Tx} (h : IsX w b n tx) (hb : Below w.heap.size w W) : IsX W b n tx := by
  obtain ⟨h1, f, h2, h3⟩ := h
  exact ⟨h1, f, h2.of_block (hb.block _ h2.lt), h3⟩
theorem IsX.push {w : World} {b n : Nat} {tx : List Tx} (h : IsX w b n tx) (k : Nat) (hk : tx.length = k) (hn : k < n) (x : Tx) : IsX (w.setCell ⟨b, k, none⟩ (.string ⟨x.toArray⟩)) b n (tx ++ [x]) := by
  subst hk
  obtain ⟨h1, f, h2, h3⟩ := h
  refine ⟨by simp; omega, _, h2.set tx.length _, fun i y hy => ?_⟩
  by_cases e : i = tx.length
  · subst e
    simp at hy
    subst hy
    simp [str]
  · have hi := (List.getElem?_eq_some_iff.1 hy).1
    rw [List.length_append] at hi
    simp at hi
    rw [List.getElem?_append_left (by omega)] at hy
    rw [if_neg e]
    exact h3 i y hy
theorem IsX.lt {w : World} {b n : Nat} {tx : List Tx} (h : IsX w b n tx) : b < w.heap.size := by obtain ⟨_, f, h2, _⟩ := h; exact h2.lt
theorem IsX.cell {w : World} {b n : Nat} {tx : List Tx} (h : IsX w b n tx) (k : Nat) (hk : k < n) : ∃ u, w.cell? ⟨b, k, none⟩ = some u ∧ w.frozen? ⟨b, k, none⟩ = false := by
  obtain ⟨_, f, h2, _⟩ := h
  exact ⟨f k, h2.cell hk, h2.frozen k⟩
theorem IsX.get {w : World} {b n : Nat} {tx : List Tx} (h : IsX w b n tx) {k : Nat} {x : Tx} (hx : tx[k]? = some x) : w.cell? ⟨b, k, none⟩ = some (.string ⟨x.toArray⟩) := by
  obtain ⟨h1, f, h2, h3⟩ := h
  have hi := (List.getElem?_eq_some_iff.1 hx).1
  rw [h2.cell (by omega), h3 k x hx]
  rfl
theorem txAt_get {tx : List Tx} {i : Nat} (h : i < tx.length) : tx[i]? = some (txAt tx i) := by
  unfold txAt
  rw [List.getD_eq_getElem?_getD, List.getElem?_eq_getElem h]
  rfl
end Go.Proofs.YtjhodmpgggaknaaGreatDoor
/- How the document's Print ends. -/
namespace Go.Proofs.YtjhodmpgggaknaaGreatDoor
theorem atF_small : ∀ (f : Nat) (s : Tx) (ts : List Tk), atF f s = some ts → ∀ t ∈ ts, t.text.length ≤ 4096
  | 0, _, _, h, _, _ => by cases h
  | f + 1, s, ts, h, t, ht => by
    rw [atF] at h
    split at h
    · cases h
      cases ht
    · cases he : endW false s with
      | none => rw [he] at h; cases h
      | some n =>
        rw [he] at h
        simp only at h
        split at h
        · rename_i hc
          cases hr : atF f (s.drop (n + 1)) with
          | none => rw [hr] at h; cases h
          | some us =>
            rw [hr] at h
            cases h
            rcases List.mem_append.1 ht with ht | ht
            · have hsc := tks_scan (s.take n)
              have h1 := ((scan_mem hsc).2.1 t ht).1
              have h2 : (s.take n).length ≤ n := by simp; omega
              omega
            · exact atF_small f _ us hr t ht
        · cases h
/-- of right nodes the text's tokens are those nodes'. -/
theorem end_right {ns : List Nd} {S : Tx} (hS : S = txAt (textsD ns ns.length) (ns.length - 1)) (hr : rightB ns = true) : ∃ t ts, okT t ∧ t.size ≤ 31 ∧ ns = flat 0 t ∧ atF (S.length + 1) S = some ts ∧ pE .or (kat ts 0) = some (t, []) := by
  obtain ⟨t, h1, h2, h3⟩ := right_get hr
  have e := (right_texts h1 h3 h2).2.2
  rw [← hS] at e
  obtain ⟨ts, a1, a2⟩ := at_ptx h1 h3
  rw [← e] at a1
  refine ⟨t, ts, h1, h3, h2, a1, ?_⟩
  show pE .or (keysT (ts.drop 0)) = _
  rw [List.drop_zero, a2]
  exact back_whole h1
theorem end_none {ns : List Nd} {S : Tx} (hS : S = txAt (textsD ns ns.length) (ns.length - 1)) (h : atF (S.length + 1) S = none) : rightB ns = false := by
  cases hr : rightB ns
  · rfl
  · obtain ⟨t, ts, _, _, _, h4, _⟩ := end_right hS hr
    rw [h] at h4
    cases h4
theorem end_fail {ns : List Nd} {S : Tx} {ts : List Tk} (hS : S = txAt (textsD ns ns.length) (ns.length - 1)) (h : atF (S.length + 1) S = some ts) (hp : pE .or (kat ts 0) = none) : rightB ns = false := by
  cases hr : rightB ns
  · rfl
  · obtain ⟨t, ts', _, _, _, h4, h5⟩ := end_right hS hr
    rw [h] at h4
    cases h4
    rw [hp] at h5
    cases h5
theorem end_short {ns : List Nd} {S : Tx} {ts : List Tk} {u : Tree} {j : Nat} (hS : S = txAt (textsD ns ns.length) (ns.length - 1)) (h : atF (S.length + 1) S = some ts) (hp : pE .or (kat ts 0) = some (u, kat ts j)) (hj : j < ts.length) : rightB ns = false := by
  cases hr : rightB ns
  · rfl
  · obtain ⟨t, ts', _, _, _, h4, h5⟩ := end_right hS hr
    rw [h] at h4
    cases h4
    rw [hp] at h5
    have e := congrArg List.length (Prod.mk.inj (Option.some.inj h5)).2
    rw [kat_len] at e
    simp at e
    omega
theorem end_other {ns : List Nd} {S : Tx} {ts : List Tk} {u : Tree} {j : Nat} (hS : S = txAt (textsD ns ns.length) (ns.length - 1)) (h : atF (S.length + 1) S = some ts) (hp : pE .or (kat ts 0) = some (u, kat ts j)) (hne : flat 0 u ≠ ns) : rightB ns = false := by
  cases hr : rightB ns
  · rfl
  · obtain ⟨t, ts', _, _, h3, h4, h5⟩ := end_right hS hr
    rw [h] at h4
    cases h4
    rw [hp] at h5
    have e := (Prod.mk.inj (Option.some.inj h5)).1
    exact absurd (by rw [e, h3]) hne
theorem end_same {ns : List Nd} {S : Tx} {ts : List Tk} {u : Tree} {r : List Key} (hS : S = txAt (textsD ns ns.length) (ns.length - 1)) (hl : ns.length ≤ 31) (hp : pE .or (kat ts 0) = some (u, r)) (he : flat 0 u = ns) : docP ns = S := by
  have hok : okT u := pE_ok (v := .or) trivial hp
  have hsz : u.size ≤ 31 := by rw [← flat_len u 0, he]; exact hl
  have hr : rightB ns = true := by rw [← he]; exact right_flat hok hsz
  unfold docP
  rw [hr, if_pos rfl, hS]

theorem isTsD_nil (w : World) : IsDs w (.slice none 0 0) [] := (ownD_nil 0 w).isD
end Go.Proofs.YtjhodmpgggaknaaGreatDoor
