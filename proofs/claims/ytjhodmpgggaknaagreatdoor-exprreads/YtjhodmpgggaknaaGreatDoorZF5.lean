/- Nodes of one's own: append; what the document's rows tell. -/
import Derived.Test.YtjhodmpgggaknaaGreatDoorZF4
namespace Go.Proofs.YtjhodmpgggaknaaGreatDoor
open Go.RowKit Go.Shelf Go.Maps

theorem OwnN.sized {B : Nat} {w : World} {v : Value} {ns : List Nd} {m : Nat} (h : OwnN B w v ns) (e : ns.length = m) : ∃ a c, v = .slice a m c := e ▸ h.slice
theorem selO_grown {w w' : World} {base B : Nat} {v : Value} {z y : List (Nd × Value)} (hz : OwnZ base w v z) (hs : SelO B w y) (hg : w.grownBy w' v.ownBlock) : SelO B w' y :=
  hs.keep fun k c hc => hg.block k (lt_of_block hc) fun e => by
    obtain ⟨c2, h⟩ := hz.block e.symm
    rw [hc] at h
    simp at h
theorem appN_run {w : World} {base B2 : Nat} {v v2 : Value} {ns ms : List Nd} (hr : OwnN base w v ns) (h2 : OwnN B2 w v2 ms) (hB : base ≤ B2) (hl : ns.length + ms.length ≤ 1000000000) (hb : base ≤ w.heap.size) :
    ∃ a' c' w', (∀ ty, (Builtin.append_ #[22, 22] ty #[v, v2]).run Tryz.prog w = .ok (.slice a' (ns.length + ms.length) c') w') ∧ OwnN base w' (.slice a' (ns.length + ms.length) c') (ns ++ ms) ∧ Below base w w' := by
  obtain ⟨z, rfl, hz, hs⟩ := hr
  obtain ⟨y, rfl, hy, ht⟩ := h2
  rw [List.length_map, List.length_map] at hl ⊢
  obtain ⟨a', c', w', g1, g2, g3, _⟩ := appZ_run hz hy.isZ ht.isI.one hl hb
  exact ⟨a', c', w', g1, ⟨z ++ y, by simp, g2, (selO_grown hz hs g3).app ((selO_grown hz ht g3).base hB)⟩, ownZ_low hz hb g3⟩
theorem selO_nil (B : Nat) (w : World) (x : Nd) (hx : x.sel = []) : SelO B w [(x, .slice none 0 0)] := fun p hp => by
  simp at hp
  subst hp
  show Mat.OwnM B w (.slice none 0 0) x.sel
  rw [hx]
  exact Mat.ownM_nil _ _
theorem pushN_run {w : World} {base : Nat} {v : Value} {ns : List Nd} (hr : OwnN base w v ns) (x : Nd) (hx : x.sel = []) (hl : ns.length + 1 ≤ 1000000000) (hb : base ≤ w.heap.size) :
    ∃ a' c' w', (∀ ty, (Builtin.append_ #[22, 22] ty #[v, .slice (some ⟨w.heap.size, 0, none⟩) 1 1]).run Tryz.prog (w.alloc (.cells #[.int .u8 (x.kind.toNat : Int), .int .u8 (x.agg.toNat : Int), .slice none 0 0, .int .i64 x.win, .int .u8 (x.cmp.toNat : Int), .int .i64 x.val, .int .i64 x.left, .int .i64 x.right] 31)) = .ok (.slice a' (ns.length + 1) c') w') ∧ OwnN base w' (.slice a' (ns.length + 1) c') (ns ++ [x]) ∧ Below base w w' := by
  obtain ⟨z, rfl, hz, hs⟩ := hr
  rw [List.length_map] at hl ⊢
  obtain ⟨a', c', w', g1, g2, g3, _⟩ := pushZ_run hz x (.slice none 0 0) rfl hl hb
  have hz' := hz.below (alloc_below w (.cells #[.int .u8 (x.kind.toNat : Int), .int .u8 (x.agg.toNat : Int), .slice none 0 0, .int .i64 x.win, .int .u8 (x.cmp.toNat : Int), .int .i64 x.val, .int .i64 x.left, .int .i64 x.right] 31))
  have hs' := hs.below (alloc_below w (.cells #[.int .u8 (x.kind.toNat : Int), .int .u8 (x.agg.toNat : Int), .slice none 0 0, .int .i64 x.win, .int .u8 (x.cmp.toNat : Int), .int .i64 x.val, .int .i64 x.left, .int .i64 x.right] 31))
  exact ⟨a', c', w', g1, ⟨z ++ [(x, .slice none 0 0)], by simp, g2, (selO_grown hz' hs' g3).app (selO_nil _ _ x hx)⟩, ((Below.refl base w).alloc hb _).trans (ownZ_low hz' (by simp; omega) g3)⟩
/-- what a row, a part, a condition of the document tells. -/
def RowD (l : List Tk) (lev : Lev) (i base : Nat) (w : World) (e : Ending) (w' : World) : Prop := Below w.heap.size w w' ∧ ((pE lev (kat l i) = none ∧ ∃ vn ns, e = .returned (.tuple #[vn, .int .i64 (-1)]) ∧ OwnN w.heap.size w' vn ns ∧ ns.length + i ≤ l.length + 1) ∨ ∃ t j vn, pE lev (kat l i) = some (t, kat l j) ∧ i < j ∧ j ≤ l.length ∧ t.size + i ≤ j ∧ e = .returned (.tuple #[vn, .int .i64 (j : Int)]) ∧ OwnN w.heap.size w' vn (flat base t))
def levOf (o : Bool) : Lev := if o then .or else .and
theorem pE_lev (o : Bool) (ks : List Key) : pE (levOf o) ks = match pE (partOf o) ks with
    | none => none
    | some (t, r) => pE (.more o t) r := by
  cases o with
  | true => exact pE_or ks
  | false => exact pE_and ks
/-- between two rounds of a row. -/
def RowS (l : List Tk) (o : Bool) (i base : Nat) (w : World) (ov nv : Value) (wr : World) : Prop :=
  Below w.heap.size w wr ∧ ((pE (levOf o) (kat l i) = none ∧ ∃ ns a c, ov = .slice a ns.length c ∧ nv = .int .i64 (-1) ∧ OwnN w.heap.size wr (.slice a ns.length c) ns ∧ ns.length + i ≤ l.length + 1) ∨ ∃ t j a c, pE (levOf o) (kat l i) = pE (.more o t) (kat l j) ∧ i < j ∧ j ≤ l.length ∧ t.size + i ≤ j ∧ ov = .slice a t.size c ∧ nv = .int .i64 (j : Int) ∧ OwnN w.heap.size wr (.slice a t.size c) (flat base t))
theorem rowS_start {l : List Tk} {o : Bool} {i base : Nat} {w w' : World} {e : Ending} (h : RowD l (partOf o) i base w e w') : ∃ ov nv, e = .returned (.tuple #[ov, nv]) ∧ RowS l o i base w ov nv w' := by
  obtain ⟨hb, ⟨h1, vn, ns, rfl, h2, h3⟩ | ⟨t, j, vn, h1, h2, h3, h4, rfl, h5⟩⟩ := h
  · obtain ⟨a, c, rfl⟩ := h2.slice
    exact ⟨_, _, rfl, hb, .inl ⟨by rw [pE_lev, h1], ns, a, c, rfl, rfl, h2, h3⟩⟩
  · obtain ⟨a, c, rfl⟩ := h5.sized (flat_len t base)
    exact ⟨_, _, rfl, hb, .inr ⟨t, j, a, c, by rw [pE_lev, h1], h2, h3, h4, rfl, rfl, h5⟩⟩
def rowM (n : Nat) (nv : Value) : Nat := if intOf nv < 0 then 0 else n + 1 - (intOf nv).toNat
theorem rowM_nat (n j : Nat) : rowM n (.int .i64 (j : Int)) = n + 1 - j := by
  unfold rowM
  rw [if_neg (by simp [intOf])]
  simp [intOf]
theorem rowM_neg (n : Nat) : rowM n (.int .i64 (-1)) = 0 := by
  unfold rowM
  rw [if_pos (by simp [intOf])]
end Go.Proofs.YtjhodmpgggaknaaGreatDoor
