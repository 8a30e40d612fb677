/- Joined: B22 B23 B24. -/
import Derived.Test.YtjhodmpgggaknaaGreatDoorZGN
import Derived.Test.YtjhodmpgggaknaaGreatDoorZGE
import Derived.Test.YtjhodmpgggaknaaGreatDoorZB21
import Derived.LoopN
/- Contract of sides; rows of ints. -/
namespace Go.Proofs.YtjhodmpgggaknaaGreatDoor
open Go.RowKit Go.Shelf Go.Maps

def zv (z : Int) : Value := .int .i64 z
/-- a row of ints. -/
def IsI (w : World) (v : Value) (l : List Int) : Prop := ∃ a c, v = .slice a l.length c ∧ l.length ≤ c ∧ c ≤ maxLen ∧ (l = [] ∨ ∃ b off, a = some ⟨b, off, none⟩ ∧ ∀ j z, l[j]? = some z → w.cell? ⟨b, off + j, none⟩ = some (zv z))
theorem IsI.slice {w : World} {v : Value} {l : List Int} (h : IsI w v l) : ∃ a c, v = .slice a l.length c := by obtain ⟨a, c, e, _⟩ := h; exact ⟨a, c, e⟩
theorem IsI.below {w w' : World} {v : Value} {l : List Int} (h : IsI w v l) (hb : Below w.heap.size w w') : IsI w' v l := by
  obtain ⟨a, c, e, h1, h2, h3⟩ := h
  refine ⟨a, c, e, h1, h2, h3.imp id ?_⟩
  rintro ⟨b, off, e2, hc⟩
  exact ⟨b, off, e2, fun j z hj => (hb.cell (p := ⟨b, off + j, none⟩) (World.block_lt_of_cell? w _ (hc j z hj))).trans (hc j z hj)⟩
theorem isI_nil (w : World) (a : Option Addr) (c : Nat) (h : c ≤ maxLen) : IsI w (.slice a 0 c) [] := ⟨a, c, rfl, by simp, h, .inl rfl⟩
/-- .. of one's own, in a block from B on. -/
def OwnI (B : Nat) (w : World) (v : Value) (l : List Int) : Prop := w.ownsRow B 3 1 v l.length (l.map zv)
theorem OwnI.slice {B : Nat} {w : World} {v : Value} {l : List Int} (h : OwnI B w v l) : ∃ a c, v = .slice a l.length c := row_slice h
theorem OwnI.keep {B : Nat} {w w' : World} {v : Value} {l : List Int} (h : OwnI B w v l) (hb : ∀ k, v.ownBlock = some k → w'.heap[k]? = w.heap[k]?) : OwnI B w' v l := ownsRow_block h hb
theorem OwnI.lt {B : Nat} {w : World} {v : Value} {l : List Int} (h : OwnI B w v l) {k : Nat} (hk : v.ownBlock = some k) : B ≤ k ∧ k < w.heap.size := World.ownsRow.lt h k hk
theorem OwnI.below {B : Nat} {w w' : World} {v : Value} {l : List Int} (h : OwnI B w v l) (hb : Below w.heap.size w w') : OwnI B w' v l := h.keep fun k hk => hb.block k (h.lt hk).2
theorem ownI_nil (B : Nat) (w : World) : OwnI B w (.slice none 0 0) [] := World.ownsRow_nil _ _ _ _
theorem OwnI.form {B : Nat} {w : World} {v : Value} {l : List Int} (h : OwnI B w v l) : (v = .slice none 0 0 ∧ l = []) ∨ ∃ (g c : Nat) (cur : Array Value), v = .slice (some ⟨g, 0, none⟩) l.length c ∧ l.length ≤ c ∧ c ≤ maxLen ∧ B ≤ g ∧ w.heap[g]? = some (.cells cur 3) ∧ cur.size = c * 1 ∧ cur.toList.take (l.length * 1) = l.map zv := by
  rcases h.2 with ⟨rfl, h0⟩ | ⟨g, cap, cur, rfl, hB, hg, h1, h2, h3, h4⟩
  · exact .inl ⟨rfl, List.eq_nil_of_length_eq_zero h0⟩
  · exact .inr ⟨g, cap, cur, rfl, h1, h2, hB, hg, h3, h4⟩
theorem zv_one (z : Int) : (zv z).oneCell' = true := rfl
theorem OwnI.take {B : Nat} {w : World} {a : Option Addr} {n c : Nat} {l : List Int} (h : OwnI B w (.slice a n c) l) (k : Nat) (hk : k ≤ l.length) : OwnI B w (.slice a k c) (l.take k) := by
  rcases h.form with ⟨e, rfl⟩ | ⟨g, c', cur, e, h1, h2, hB, hg, h3, h4⟩
  · cases e
    simp at hk
    subst hk
    exact ownI_nil _ _
  · cases e
    have hl : (l.take k).length = k := by simp; omega
    refine ⟨by simp, .inr ⟨g, c, cur, by rw [hl], hB, hg, by rw [hl]; omega, h2, h3, ?_⟩⟩
    rw [hl, List.map_take, ← h4, List.take_take]
    congr 1
    omega
/-- a piece is read. -/
theorem OwnI.cells {B : Nat} {w : World} {v : Value} {l : List Int} (h : OwnI B w v l) : IsI w v l := by
  rcases h.form with ⟨rfl, rfl⟩ | ⟨g, c, cur, rfl, h1, h2, hB, hg, h3, h4⟩
  · exact isI_nil _ _ _ (by simp)
  · refine ⟨_, c, rfl, h1, h2, .inr ⟨g, 0, rfl, fun j z hj => ?_⟩⟩
    rw [cell_of hg, Nat.zero_add]
    have hlt := (List.getElem?_eq_some_iff.1 hj).1
    have : (cur.toList.take (l.length * 1))[j]? = some (zv z) := by rw [h4, List.getElem?_map, hj]; rfl
    rw [List.getElem?_take_of_lt (by omega)] at this
    rw [← Array.getElem?_toList]
    exact this
theorem intInfo : (Tryz.prog.info? 3).map (fun i => (i.zero, i.size, i.bytes)) = some (some (.int .i64 0), 1, 8) := by kernel_rfl
theorem pushI_run {w : World} {base : Nat} {v : Value} {l : List Int} (hr : OwnI base w v l) (z : Int) (hl : l.length + 1 ≤ 1000000000) (hb : base ≤ w.heap.size) :
    ∃ a' c' w', (∀ ty, (Builtin.append_ #[68, 68] ty #[v, .slice (some ⟨w.heap.size, 0, none⟩) 1 1]).run Tryz.prog (w.alloc (.cells #[zv z] 3)) = .ok (.slice a' (l.length + 1) c') w') ∧ OwnI base w' (.slice a' (l.length + 1) c') (l ++ [z]) ∧ (w.alloc (.cells #[zv z] 3)).grownBy w' v.ownBlock ∧ ((Value.slice a' (l.length + 1) c').ownBlock = v.ownBlock ∨ (Value.slice a' (l.length + 1) c').ownBlock = some (w.heap.size + 1)) := by
  obtain ⟨i0, hi, hz0, hz1, hz2⟩ := info_parts intInfo
  have hr' := hr.below (alloc_below w (.cells #[zv z] 3))
  obtain ⟨v', w', hrun, h3, h4, _, h5⟩ := run_append_own_at (P := Tryz.prog) (w.alloc (.cells #[zv z] 3)) base 68 0 3 i0 (.int .i64 0) 1 8 Tryz.underlying68 hi hz0 hz1 hz2 rfl (by decide) v l.length (l.map zv) hr' ⟨w.heap.size, 0, none⟩ 1 1 [zv z] rfl (by
    intro j u hu
    match j, hu with
    | 0, hu =>
      simp at hu
      subst hu
      exact cell_of (new_block w _) 0) (by
    intro u hu
    simp at hu
    subst hu
    exact zv_one z) (by unfold maxLen; omega) (by omega) (by simp; omega)
  obtain ⟨a', c', rfl⟩ := row_slice h3
  refine ⟨a', c', w', fun ty => hrun, ?_, h4, by simpa using h5⟩
  unfold OwnI
  rw [List.map_append, List.length_append]
  exact h3
set_option maxRecDepth 100000 in
set_option maxHeartbeats 4000000 in
theorem sides_any (x : Nd) (s : Value) (w : World) : Calls Tryz.prog 34 #[ndAgg x s] w fun e w' => ∃ v, e = .returned v ∧ IsI w' v (sidesN x) ∧ Below w.heap.size w w' := by
  have two : Hid (∀ (o : Obj) (a b : Int), IsI ((w.alloc o).alloc (.cells #[.int .i64 a, .int .i64 b] 3)) (.slice (some ⟨w.heap.size + 1, 0, none⟩) 2 2) [a, b] ∧ Below w.heap.size w ((w.alloc o).alloc (.cells #[.int .i64 a, .int .i64 b] 3))) := fun o a b => by
    have hx := new_block (w.alloc o) (.cells #[.int .i64 a, .int .i64 b] 3)
    rw [show (w.alloc o).heap.size = w.heap.size + 1 by simp] at hx
    refine ⟨⟨_, 2, rfl, Nat.le_refl _, by unfold maxLen; omega, .inr ⟨_, 0, rfl, fun j z hj => ?_⟩⟩, (alloc_below _ _).trans ((alloc_below _ _).mono (by simp))⟩
    match j, hj with
    | 0, hj => cases hj; rw [cell_of hx]; rfl
    | 1, hj => cases hj; rw [cell_of hx]; rfl
  have one : Hid (∀ (o : Obj) (a : Int), IsI ((w.alloc o).alloc (.cells #[.int .i64 a] 3)) (.slice (some ⟨w.heap.size + 1, 0, none⟩) 1 1) [a] ∧ Below w.heap.size w ((w.alloc o).alloc (.cells #[.int .i64 a] 3))) := fun o a => by
    have hx := new_block (w.alloc o) (.cells #[.int .i64 a] 3)
    rw [show (w.alloc o).heap.size = w.heap.size + 1 by simp] at hx
    refine ⟨⟨_, 1, rfl, Nat.le_refl _, by unfold maxLen; omega, .inr ⟨_, 0, rfl, fun j z hj => ?_⟩⟩, (alloc_below _ _).trans ((alloc_below _ _).mono (by simp))⟩
    match j, hj with
    | 0, hj => cases hj; rw [cell_of hx]; rfl
  by_cases h1 : x.kind = 1
  · have hs : Hid (sidesN x = [x.left, x.right]) := by show _ = _; unfold sidesN; rw [if_pos (.inl h1)]
    unfold ndAgg
    rw [h1]
    go_enter Tryz.func34, Tryz.ntmps34
    go_wp2
    go_ret
    rw [hs.out]
    exact ⟨_, rfl, two.out _ _ _⟩
  by_cases h2 : x.kind = 2
  · have hs : Hid (sidesN x = [x.left, x.right]) := by show _ = _; unfold sidesN; rw [if_pos (.inr h2)]
    unfold ndAgg
    rw [h2]
    go_enter Tryz.func34, Tryz.ntmps34
    go_wp2
    go_ret
    rw [hs.out]
    exact ⟨_, rfl, two.out _ _ _⟩
  by_cases h3 : x.kind = 3
  · have hs : Hid (sidesN x = [x.left]) := by show _ = _; unfold sidesN; rw [if_neg (by simp [h1, h2]), if_pos h3]
    unfold ndAgg
    rw [h3]
    go_enter Tryz.func34, Tryz.ntmps34
    go_wp2
    go_ret
    rw [hs.out]
    exact ⟨_, rfl, one.out _ _⟩
  · have hs : Hid (sidesN x = []) := by show _ = _; unfold sidesN; rw [if_neg (by simp [h1, h2]), if_neg h3]
    have m1 : ((x.kind.toNat : Int) == 1) = false := beq_eq_false_iff_ne.2 fun e => h1 (UInt8.toNat_inj.1 (by simpa using (by omega : x.kind.toNat = 1)))
    have m2 : ((x.kind.toNat : Int) == 2) = false := beq_eq_false_iff_ne.2 fun e => h2 (UInt8.toNat_inj.1 (by simpa using (by omega : x.kind.toNat = 2)))
    have m3 : ((x.kind.toNat : Int) == 3) = false := beq_eq_false_iff_ne.2 fun e => h3 (UInt8.toNat_inj.1 (by simpa using (by omega : x.kind.toNat = 3)))
    unfold ndAgg
    go_enter Tryz.func34, Tryz.ntmps34
    go_wp2
    go_ret
    rw [hs.out]
    exact ⟨_, rfl, isI_nil _ _ _ (by simp), alloc_below _ _⟩
end Go.Proofs.YtjhodmpgggaknaaGreatDoor
/- Contract of Right. -/
namespace Go.Proofs.YtjhodmpgggaknaaGreatDoor
open Go.RowKit Go.Shelf Go.Maps

theorem walk_none {f : List Int} {k : Nat} {ns : List Nd} {x : Nd} (hx : ns[k]? = some x) (h : stepR f k x = none) : walkR f k (ns.drop k) = none := by
  obtain ⟨hk, e⟩ := List.getElem?_eq_some_iff.1 hx
  rw [List.drop_eq_getElem_cons hk, walkR, e, h]
theorem walk_some {f g : List Int} {k : Nat} {ns : List Nd} {x : Nd} (hx : ns[k]? = some x) (h : stepR f k x = some g) : walkR f k (ns.drop k) = walkR g (k + 1) (ns.drop (k + 1)) := by
  obtain ⟨hk, e⟩ := List.getElem?_eq_some_iff.1 hx
  rw [List.drop_eq_getElem_cons hk, walkR, e, h]
theorem right_none {ns : List Nd} (h : walkR [] 0 ns = none) : rightB ns = false := by unfold rightB; rw [h]; simp
theorem right_some {ns : List Nd} {f : List Int} (hl : ns.length ≤ 31) (h : walkR [] 0 ns = some f) : rightB ns = (f.length == 1) := by unfold rightB; rw [h]; simp [hl]
theorem ownI_low {base : Nat} {w w' : World} {v : Value} {l : List Int} (hr : OwnI base w v l) (hb : base ≤ w.heap.size) (hg : w.grownBy w' v.ownBlock) : Below base w w' :=
  ⟨hg.os, hg.tape, hg.output, hg.size, fun k hk => hg.block k (by omega) fun e => by have := (hr.lt e.symm).1; omega⟩
theorem eq_empty (a1 a2 : Option Addr) (c d : Nat) {l m : List Int} (W : World) (hl : l = []) (hm : m = []) : Calls Tryz.prog 36 #[.slice a1 0 c, .slice a2 m.length d] W fun e w' => e = .returned (.bool (l == m)) ∧ Below W.heap.size W w' := by
  subst hl hm
  refine (Tryz.slices_Equal_int_empty a1 a2 c 0 d W (by decide)).mono ?_
  rintro e w' ⟨rfl, rfl⟩
  exact ⟨rfl, Below.refl _ _⟩
theorem eq_any {B : Nat} {W : World} {g o c d : Nat} {oa : Option Addr} {oc : Nat} {l m : List Int} (h1 : OwnI B W (.slice (some ⟨g, 0, none⟩) l.length c) l) (h2 : IsI W (.slice oa m.length oc) m) (ho : o ≤ l.length) (hlm : l.length - o = m.length) (hs : l.length ≤ 31) : Calls Tryz.prog 36 #[.slice (some ⟨g, o, none⟩) m.length d, .slice oa m.length oc] W fun e w' => e = .returned (.bool (l.drop o == m)) ∧ Below W.heap.size W w' := by
  by_cases hm : m = []
  · have := eq_empty (some ⟨g, o, none⟩) oa d oc (l := l.drop o) (m := m) W (List.eq_nil_of_length_eq_zero (by rw [List.length_drop, hlm, hm]; rfl)) hm
    rw [hm] at this ⊢
    exact this
  · obtain ⟨a, c', e, h3, h4, h5⟩ := h2
    cases e
    obtain ⟨b2, o2, rfl, hc2⟩ := h5.resolve_left hm
    obtain ⟨a1, c1, e1, g1, g2, g3⟩ := h1.cells
    cases e1
    have hl0 : l ≠ [] := fun e => by
      rw [e] at hlm
      exact hm (List.eq_nil_of_length_eq_zero (by rw [← hlm]; simp))
    obtain ⟨b1, o1, e2, hc1⟩ := g3.resolve_left hl0
    cases e2
    have hd : (l.drop o).length = m.length := by rw [List.length_drop]; exact hlm
    refine (Tryz.slices_Equal_int g o m.length d b2 o2 m.length oc (l.drop o) m W (by omega) (Nat.le_refl _) (by omega) (by omega) (fun j hj => ?_) (fun j hj => ?_)).mono ?_
    · have h6 : (l.drop o)[j]? = some ((l.drop o).getD j 0) := by rw [List.getD_eq_getElem?_getD, List.getElem?_eq_getElem hj]; rfl
      rw [List.getElem?_drop] at h6
      have := hc1 (o + j) _ h6
      rw [Nat.zero_add] at this
      exact this
    · have h6 : m[j]? = some (m.getD j 0) := by rw [List.getD_eq_getElem?_getD, List.getElem?_eq_getElem hj]; rfl
      exact hc2 j _ h6
    · rintro e w' ⟨rfl, q, rfl⟩
      rw [List.take_of_length_le (Nat.le_of_eq hd), List.take_of_length_le (Nat.le_refl _)]
      exact ⟨rfl, below_drewN (Below.refl _ _)⟩
set_option maxRecDepth 100000 in
set_option maxHeartbeats 4000000 in
theorem Right_any {w : World} {v : Value} {ns : List Nd} (h : IsN w v ns) :
    Calls Tryz.prog 16 #[v] w fun e w' => e = .returned (.bool (rightB ns)) ∧ Below w.heap.size w w' := by
  obtain ⟨a, c, rfl⟩ := h.slice
  obtain ⟨-, hb1, hb2⟩ := h.bound
  by_cases hl : 31 < ns.length
  · have hr : Hid (rightB ns = false) := by show _ = _; unfold rightB; rw [decide_eq_false (by omega)]; rfl
    have q : decide ((31 : Int) < (ns.length : Int)) = true := decide_eq_true (by omega)
    clear h
    go_enter Tryz.func16, Tryz.ntmps16
    go_wp2
    go_ret
    exact ⟨congrArg (fun b => Ending.returned (.bool b)) hr.out.symm, Below.refl _ _⟩
  · have q : decide ((31 : Int) < (ns.length : Int)) = false := decide_eq_false (by omega)
    have hN := hid h
    clear h
    go_enter Tryz.func16, Tryz.ntmps16
    go_wp2
    go_loopw [3, 13] (fun f i wr => ∃ k l, i = .int .i64 ((k : Nat) : Int) ∧ k ≤ ns.length ∧ OwnI w.heap.size wr f l ∧ l.length ≤ k ∧ Below w.heap.size w wr ∧ walkR [] 0 ns = walkR l k (ns.drop k)) (fun _ i _ => ns.length - (intOf i).toNat)
    case atStart => exact ⟨0, [], rfl, by omega, ownI_nil _ _, by simp, Below.refl _ _, rfl⟩
    case round =>
      obtain ⟨k, l, rfl, hk, hI, hlk, hlow, hw⟩ := hrel
      obtain ⟨fa, fc, rfl⟩ := hI.slice
      replace hw := hid hw
      by_cases hkn : (k : Int) < (ns.length : Int)
      · have hkn' : k < ns.length := by omega
        obtain ⟨b, off, rfl, hcs⟩ := (hN.out.below hlow).at hkn'
        obtain ⟨x, hx⟩ : ∃ x, ns[k]? = some x := ⟨_, List.getElem?_eq_getElem hkn'⟩
        obtain ⟨s, ⟨x0, x1, x2, x3, x4, x5, x6, x7⟩, hms⟩ := hcs k x hx
        replace hx := hid hx
        obtain ⟨sa, sc, rfl⟩ := hms.slice
        replace hms := hid hms
        replace hI := hid hI
        replace hlow := hid hlow
        clear hcs
        have hal := alloc_below wr (.cells #[.int .u8 (x.kind.toNat : Int), .int .u8 (x.agg.toNat : Int), .slice sa x.sel.length sc, .int .i64 x.win, .int .u8 (x.cmp.toNat : Int), .int .i64 x.val, .int .i64 x.left, .int .i64 x.right] 31)
        have hbx := new_block wr (.cells #[.int .u8 (x.kind.toNat : Int), .int .u8 (x.agg.toNat : Int), .slice sa x.sel.length sc, .int .i64 x.win, .int .u8 (x.cmp.toNat : Int), .int .i64 x.val, .int .i64 x.left, .int .i64 x.right] 31)
        obtain ⟨V, hV⟩ : ∃ V, wr.alloc (.cells #[.int .u8 (x.kind.toNat : Int), .int .u8 (x.agg.toNat : Int), .slice sa x.sel.length sc, .int .i64 x.win, .int .u8 (x.cmp.toNat : Int), .int .i64 x.val, .int .i64 x.left, .int .i64 x.right] 31) = V := ⟨_, rfl⟩
        rw [hV] at hal hbx
        replace hV := hid hV
        have hsd := hid (sides_any x (.slice sa x.sel.length sc) V)
        unfold ndAgg at hsd
        replace hal := hid hal
        replace hbx := hid hbx
        go_wp2_with fail
        rw [hV.out]
        clear hV x0 x1 x2 x3 x4 x5 x6 x7
        refine hsd.out.mono ?_
        rintro e W1 ⟨v1, rfl, hown, hb1⟩
        obtain ⟨oa, oc, rfl⟩ := hown.slice
        have hx1 := (hb1.block _ (lt_of_block hbx.out)).trans hbx.out
        have x0 := cell_of hx1 0
        have x1 := cell_of hx1 1
        have x2 := cell_of hx1 2
        have x3 := cell_of hx1 3
        have x4 := cell_of hx1 4
        have x5 := cell_of hx1 5
        have x6 := cell_of hx1 6
        have x7 := cell_of hx1 7
        simp at x0 x1 x2 x3 x4 x5 x6 x7
        have hB1 := hid (hal.out.trans (hb1.mono hal.out.size))
        have hmb := hid (mayBe_any x (.slice sa x.sel.length sc) W1 (hms.out.below hB1.out))
        unfold ndAgg at hmb
        have hfin := hid (fun (W' : World) (hb : Below W1.heap.size W1 W') => hlow.out.trans ((hB1.out.trans (hb.mono hB1.out.size)).mono hlow.out.size))
        have hm2 : (sidesN x).length ≤ 2 := by
          unfold sidesN
          split
          · exact Nat.le_refl _
          · split <;> simp
        replace hown := hid hown
        clear hx1 hb1 hsd hbx hal hms
        have hl31 : (l.length : Int) ≤ 31 := by omega
        have hm2' : ((sidesN x).length : Int) ≤ 2 := by omega
        obtain ⟨ot, hot⟩ : ∃ ot : Int, ot = (l.length : Int) - ((sidesN x).length : Int) := ⟨_, rfl⟩
        have hwr : IntKind.i64.wrap ((l.length : Int) - ((sidesN x).length : Int)) = ot := by rw [IntKind.wrap_i64]; omega
        replace hot := hid hot
        cases e1 : mayBeN x
        · rw [e1] at hmb
          have hno : Hid (rightB ns = false) := right_none (hw.out.trans (walk_none hx.out (by unfold stepR; rw [if_neg]; rintro ⟨h, -⟩; rw [e1] at h; cases h)))
          go_wp2_with fail
          refine hmb.out.mono ?_
          rintro e W2 ⟨rfl, hb2⟩
          have hfin2 := hid (hfin.out _ hb2)
          clear hb2 hmb
          go_wp2
          go_ret
          exact ⟨congrArg (fun b => Ending.returned (.bool b)) hno.out.symm, hfin2.out⟩
        · rw [e1] at hmb
          by_cases hm : l.length < (sidesN x).length
          · have hno : Hid (rightB ns = false) := right_none (hw.out.trans (walk_none hx.out (by unfold stepR; rw [if_neg]; rintro ⟨-, h, -⟩; omega)))
            have q2 : decide (ot < 0) = true := decide_eq_true (by have := hot.out; omega)
            go_wp2_with fail
            refine hmb.out.mono ?_
            rintro e W2 ⟨rfl, hb2⟩
            have hfin2 := hid (hfin.out _ hb2)
            clear hb2 hmb
            go_wp2
            go_ret
            exact ⟨congrArg (fun b => Ending.returned (.bool b)) hno.out.symm, hfin2.out⟩
          · obtain ⟨o, rfl⟩ : ∃ o : Nat, ot = o := ⟨ot.toNat, by have := hot.out; omega⟩
            have ho : o = l.length - (sidesN x).length := by have := hot.out; omega
            have hol : o ≤ l.length := by omega
            have hstep := hid (show (l.drop o == sidesN x) = true → stepR l k x = some (l.take o ++ [(k : Int)]) from fun he => by unfold stepR; rw [if_pos ⟨e1, by omega, by rw [← ho]; simpa using he⟩, ← ho])
            have hstep0 := hid (show (l.drop o == sidesN x) = false → stepR l k x = none from fun he => by
              unfold stepR
              rw [if_neg]
              rintro ⟨-, -, h⟩
              rw [← ho] at h
              rw [h] at he
              simp at he)
            have hlo : l.length - o = (sidesN x).length := by omega
            have q2 : decide ((o : Int) < 0) = false := by simp
            replace ho := hid ho
            clear hot
            have hlowI := hid (hI.out.below (hB1.out))
            rcases hI.out.form with ⟨hf1, hf2⟩ | ⟨g, fc', cur, hf1, hf2, hf3, hf4, hf5, hf6, hf7⟩
            · subst hf2
              simp at hf1
              obtain ⟨rfl, rfl⟩ := hf1
              obtain rfl : o = 0 := by simpa using hol
              have hs0 : sidesN x = [] := List.eq_nil_of_length_eq_zero (by rw [← hlo]; rfl)
              have heq := fun W => eq_empty none oa 0 oc (l := ([] : List Int).drop 0) (m := sidesN x) W rfl hs0
              generalize (([] : List Int).drop 0 == sidesN x) = eB at *
              rw [hs0] at heq hown hlo hm2 hm2'
              simp only [List.length_nil] at heq hown hlo
              replace heq := hid heq
              replace hs0 := hid hs0
              go_wp2_with fail
              refine hmb.out.mono ?_
              rintro e W2 ⟨rfl, hb2⟩
              go_wp2_with fail
              refine (heq.out W2).mono ?_
              rintro e W3 ⟨rfl, hb3⟩
              have hfin3 := hid (hfin.out _ (hb2.trans (hb3.mono hb2.size)))
              have hI3 := hid (hlowI.out.below (hb2.trans (hb3.mono hb2.size)))
              clear hmb heq hb2 hb3
              cases eB
              · have hno : Hid (rightB ns = false) := right_none (hw.out.trans (walk_none hx.out (hstep0.out rfl)))
                go_wp2
                go_ret
                exact ⟨congrArg (fun b => Ending.returned (.bool b)) hno.out.symm, hfin3.out⟩
              · have hnext := hid (hw.out.trans (walk_some hx.out (hstep.out rfl)))
                have hto : (([] : List Int).take 0).length = 0 := rfl
                obtain ⟨a', c', w', hrun, ho', hgr, -⟩ := pushI_run (hI3.out.take 0 hol) (k : Int) (by omega) hfin3.out.size
                rw [hto] at hrun
                unfold zv at hrun hgr
                have hI4 := hid ho'
                have hlow4 := hid (hfin3.out.trans (((alloc_below W3 (.cells #[.int .i64 (k : Int)] 3)).mono hfin3.out.size).trans (ownI_low ((hI3.out.take 0 hol).below (alloc_below _ _)) (by have := hfin3.out.size; simp; omega) hgr)))
                clear ho' hgr
                go_wp2_with (at_builtin; refine wpList_append_run _ rfl _ _ 68 rfl _ _ _ _ rfl rfl hrun ?_)
                refine ⟨⟨k + 1, _, by simp, by omega, ?_, ?_, hlow4.out, hnext.out⟩, by simp [intOf]; omega⟩
                · have := hI4.out
                  exact this
                · simp
            · cases hf1
              by_cases hoc : o = fc
              · have hs0 : sidesN x = [] := List.eq_nil_of_length_eq_zero (by omega)
                obtain rfl : o = l.length := by omega
                subst hoc
                have hlo0 : l.length - l.length = 0 := by omega
                replace hlo := hid hlo
                have heq := fun W => eq_empty (some ⟨g, 0, none⟩) oa 0 oc (l := l.drop l.length) (m := sidesN x) W (List.drop_eq_nil_of_le (by omega)) hs0
                generalize (l.drop l.length == sidesN x) = eB at *
                replace heq := hid heq
                replace hs0 := hid hs0
                go_wp2_with fail
                refine hmb.out.mono ?_
                rintro e W2 ⟨rfl, hb2⟩
                go_wp2_with fail
                refine (heq.out W2).mono ?_
                rintro e W3 ⟨rfl, hb3⟩
                have hfin3 := hid (hfin.out _ (hb2.trans (hb3.mono hb2.size)))
                have hI3 := hid (hlowI.out.below (hb2.trans (hb3.mono hb2.size)))
                clear hmb heq hb2 hb3
                cases eB
                · have hno : Hid (rightB ns = false) := right_none (hw.out.trans (walk_none hx.out (hstep0.out rfl)))
                  go_wp2
                  go_ret
                  exact ⟨congrArg (fun b => Ending.returned (.bool b)) hno.out.symm, hfin3.out⟩
                · have hnext := hid (hw.out.trans (walk_some hx.out (hstep.out rfl)))
                  have hto : (l.take l.length).length = l.length := by rw [List.length_take]; omega
                  obtain ⟨a', c', w', hrun, ho', hgr, -⟩ := pushI_run (hI3.out.take l.length hol) (k : Int) (by omega) hfin3.out.size
                  rw [hto] at hrun
                  unfold zv at hrun hgr
                  have hI4 := hid ho'
                  have hlow4 := hid (hfin3.out.trans (((alloc_below W3 (.cells #[.int .i64 (k : Int)] 3)).mono hfin3.out.size).trans (ownI_low ((hI3.out.take l.length hol).below (alloc_below _ _)) (by have := hfin3.out.size; simp; omega) hgr)))
                  clear ho' hgr
                  go_wp2_with (at_builtin; refine wpList_append_run _ rfl _ _ 68 rfl _ _ _ _ rfl rfl hrun ?_)
                  refine ⟨⟨k + 1, _, by simp, by omega, ?_, ?_, hlow4.out, hnext.out⟩, by simp [intOf]; omega⟩
                  · have := hI4.out
                    rw [hto] at this
                    exact this
                  · simp; omega
              · have heq := fun W (hb : Below W1.heap.size W1 W) => eq_any (d := fc - o) (hlowI.out.below hb) (hown.out.below hb) hol hlo (by omega)
                generalize (l.drop o == sidesN x) = eB at *
                replace heq := hid heq
                go_wp2_with fail
                refine hmb.out.mono ?_
                rintro e W2 ⟨rfl, hb2⟩
                go_wp2_with fail
                refine (heq.out W2 hb2).mono ?_
                rintro e W3 ⟨rfl, hb3⟩
                have hfin3 := hid (hfin.out _ (hb2.trans (hb3.mono hb2.size)))
                have hI3 := hid (hlowI.out.below (hb2.trans (hb3.mono hb2.size)))
                clear hmb heq hb2 hb3
                cases eB
                · have hno : Hid (rightB ns = false) := right_none (hw.out.trans (walk_none hx.out (hstep0.out rfl)))
                  go_wp2
                  go_ret
                  exact ⟨congrArg (fun b => Ending.returned (.bool b)) hno.out.symm, hfin3.out⟩
                · have hnext := hid (hw.out.trans (walk_some hx.out (hstep.out rfl)))
                  have hto : (l.take o).length = o := by rw [List.length_take]; omega
                  obtain ⟨a', c', w', hrun, ho', hgr, -⟩ := pushI_run (hI3.out.take o hol) (k : Int) (by omega) hfin3.out.size
                  rw [hto] at hrun
                  unfold zv at hrun hgr
                  have hI4 := hid ho'
                  have hlow4 := hid (hfin3.out.trans (((alloc_below W3 (.cells #[.int .i64 (k : Int)] 3)).mono hfin3.out.size).trans (ownI_low ((hI3.out.take o hol).below (alloc_below _ _)) (by have := hfin3.out.size; simp; omega) hgr)))
                  clear ho' hgr
                  go_wp2_with (at_builtin; refine wpList_append_run _ rfl _ _ 68 rfl _ _ _ _ rfl rfl hrun ?_)
                  refine ⟨⟨k + 1, _, by simp, by omega, ?_, ?_, hlow4.out, hnext.out⟩, by simp [intOf]; omega⟩
                  · have := hI4.out
                    rw [hto] at this
                    exact this
                  · simp; omega
      · obtain rfl : k = ns.length := by omega
        have hres : Hid (rightB ns = (l.length == 1)) := right_some (by omega) (by rw [hw.out, List.drop_length]; rfl)
        have hlow2 := hid hlow
        clear hlow
        by_cases h1 : l.length = 1
        · have q1 : ((l.length : Int) == 1) = true := by simp [h1]
          rw [h1] at hres
          go_wp2
          go_ret
          exact ⟨congrArg (fun b => Ending.returned (.bool b)) hres.out.symm, hlow2.out⟩
        · have q1 : ((l.length : Int) == 1) = false := beq_eq_false_iff_ne.2 (by omega)
          have q2 : (l.length == 1) = false := beq_eq_false_iff_ne.2 h1
          rw [q2] at hres
          go_wp2
          go_ret
          exact ⟨congrArg (fun b => Ending.returned (.bool b)) hres.out.symm, hlow2.out⟩
end Go.Proofs.YtjhodmpgggaknaaGreatDoor
/- Contract of strength. -/
namespace Go.Proofs.YtjhodmpgggaknaaGreatDoor
open Go.RowKit Go.Shelf Go.Maps
def strN (k : UInt8) : Nat := if k = 2 then 0 else if k = 1 then 1 else 2
theorem idx0 (W : World) : (Instr.index 83 (.agg #[.string ⟨#[111, 114]⟩, .int .u8 2, .string ⟨#[97, 110, 100]⟩, .int .u8 1]) (.int .i64 0)).run Tryz.prog W = .ok (.agg #[.string ⟨#[111, 114]⟩, .int .u8 2]) W := by kernel_rfl
theorem idx1 (W : World) : (Instr.index 83 (.agg #[.string ⟨#[111, 114]⟩, .int .u8 2, .string ⟨#[97, 110, 100]⟩, .int .u8 1]) (.int .i64 1)).run Tryz.prog W = .ok (.agg #[.string ⟨#[97, 110, 100]⟩, .int .u8 1]) W := by kernel_rfl
set_option maxRecDepth 100000 in
set_option maxHeartbeats 1000000 in
theorem strength_any (k : UInt8) (w : World) (hO : EnvO w) : Calls Tryz.prog 45 #[.int .u8 (k.toNat : Int)] w fun e w' => e = .returned (.int .i64 (strN k : Int)) ∧ Below w.heap.size w w' := by
  obtain ⟨c0, c1, c2, c3⟩ := hO
  have i0 := idx0
  have i1 := idx1
  have hal := hid (fun (o1 o2 : Obj) => (alloc_below w o1).trans ((alloc_below (w.alloc o1) o2).mono (show w.heap.size ≤ (w.alloc o1).heap.size by simp)))
  have hal1 := hid (fun (o1 : Obj) => alloc_below w o1)
  by_cases h2 : k = 2
  · subst h2
    go_enter Tryz.func45, Tryz.ntmps45
    go_wp2
    refine wp_loop_rounds 2 ?_
    rw [rounds_succ]
    go_wp2
    go_ret
    exact ⟨rfl, hal1.out _⟩
  · have m2 : ((2 : Int) == (k.toNat : Int)) = false := beq_eq_false_iff_ne.2 fun e => h2 (UInt8.toNat_inj.1 (by simpa using (by omega : k.toNat = 2)))
    by_cases h1 : k = 1
    · subst h1
      clear m2
      go_enter Tryz.func45, Tryz.ntmps45
      go_wp2
      refine wp_loop_rounds 2 ?_
      rw [rounds_succ]
      go_wp2
      rw [rounds_succ]
      go_wp2
      go_ret
      exact ⟨rfl, hal.out _ _⟩
    · have m1 : ((1 : Int) == (k.toNat : Int)) = false := beq_eq_false_iff_ne.2 fun e => h1 (UInt8.toNat_inj.1 (by simpa using (by omega : k.toNat = 1)))
      have hs : Hid (strN k = 2) := by show _ = _; unfold strN; rw [if_neg h2, if_neg h1]
      go_enter Tryz.func45, Tryz.ntmps45
      go_wp2
      refine wp_loop_rounds 3 ?_
      rw [rounds_succ]
      go_wp2
      rw [rounds_succ]
      go_wp2
      rw [rounds_succ]
      go_wp2
      go_ret
      rw [hs.out]
      exact ⟨rfl, hal.out _ _⟩
end Go.Proofs.YtjhodmpgggaknaaGreatDoor
