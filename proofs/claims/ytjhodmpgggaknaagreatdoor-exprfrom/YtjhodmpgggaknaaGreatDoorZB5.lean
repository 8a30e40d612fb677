/- Contract of add. -/
import Derived.Test.YtjhodmpgggaknaaGreatDoorZGF
import Derived.Test.YtjhodmpgggaknaaGreatDoorZE5
import Derived.Deep.RegionLaw
namespace Go.Proofs.YtjhodmpgggaknaaGreatDoor
open Go.RowKit Go.Shelf Go.Maps

theorem step_append {P : Program} {ops : Array Oper} {o : Oper} {a : Act} {w : World} {K : Act → World → Prop} {Q : Exit → Act → World → Prop} {E : Prop}
    (hg : o.guard = none) (s x : Operand) (t : TypeId) (hop : o.op = Op.call { callee := Callee.builtin Builtin.append, args := #[s, x], argTypes := #[t, t] }) (v v2 v' : Value) (w' : World)
    (hs : a.eval s = v) (hx : a.eval x = v2) (hrun : ∀ ty, (Builtin.append_ #[t, t] ty #[v, v2]).run P w = .ok v' w') (hK : K (a.put o.dst v') w') :
    if Region.wanted o (yielded ops a.tmps) = true then Oper.wp P o a w K Q else E := by
  have hw : Region.wanted o (yielded ops a.tmps) = true := by simp [Region.wanted, hg]
  rw [if_pos hw]
  unfold Oper.wp
  simp [execOp, hop, resolve, invoke, builtin, hs, hx, hrun, Result.andThen]
  exact hK
def ndAgg (x : Nd) (s : Value) : Value := .agg #[.int .u8 (x.kind.toNat : Int), .int .u8 (x.agg.toNat : Int), s, .int .i64 x.win, .int .u8 (x.cmp.toNat : Int), .int .i64 x.val, .int .i64 x.left, .int .i64 x.right]
/-- .. a call that may take a row of matchers over. -/
def RdAdd (F S : Nat → Prop) (w0 w w' : World) (b : Nat) (ts : List Tk) (ns : List Nd) (fl : Bool) : Prop :=
  ∃ F', RdAt F' w0 w' b ts ns fl ∧ Kept F w w' ∧ (∀ k, F k → F' k) ∧ ∀ k, F' k → F k ∨ S k ∨ w.heap.size ≤ k
theorem RdAt.full {F : Nat → Prop} {w0 w : World} {b : Nat} {ts : List Tk} {ns : List Nd} {fl : Bool} (h : RdAt F w0 w b ts ns fl) : RdAt F w0 (w.setCell ⟨b, 2, none⟩ (.bool true)) b ts ns true := by
  obtain ⟨vr, vn, z, h1, h2, h3, h4, h5, h6, h7⟩ := h.cell
  have hk := kept_set (F := F) w b 2 (.bool true) h.inb
  have hb2 : (w.setCell ⟨b, 2, none⟩ (.bool true)).heap[b]? = some (.cells #[vr, vn, .bool true] 59) := by rw [heap_set_at h1]; rfl
  refine ⟨h.low.trans (hk.below h.low.size h.lo), h.lo, fun k hf => by rw [size_set]; exact h.lt k hf, h.inb, ⟨vr, vn, z, hb2, h2, h3, h4.keep (fun k hv => heap_set _ _ _ _ _ fun e => ?_), h5.keep (fun k c hc => heap_set _ _ _ _ _ fun e => by rw [e, h1] at hc; simp at hc), h6, h7⟩, h.len⟩
  obtain ⟨c, hc⟩ := h4.block hv
  rw [e, h1] at hc; simp at hc
/-- the nodes are set. -/
theorem RdAt.push {F S : Nat → Prop} {w0 w w1 : World} {b : Nat} {ts : List Tk} {fl : Bool} {vr vn vn' : Value} {z : List (Nd × Value)} {x : Nd} {s : Value} (h : RdAt F w0 w b ts (z.map Prod.fst) fl)
    (h1 : w.heap[b]? = some (.cells #[vr, vn, .bool fl] 59)) (h2 : IsTs w0 vr ts) (h4 : OwnZ w0.heap.size w vn z) (h5 : SelO w0.heap.size w z) (h6 : ∀ k, vn.ownBlock = some k → F k) (h7 : ∀ p ∈ z, ∀ k, p.2.ownBlock = some k → F k)
    (hlen : z.length < 31) (hs : Mat.OwnM w0.heap.size w s x.sel) (hS : ∀ k, s.ownBlock = some k → S k)
    (ho : OwnZ w0.heap.size w1 vn' (z ++ [(x, s)])) (hg : w.grownBy w1 vn.ownBlock) (hn : ∀ k, vn'.ownBlock = some k → vn.ownBlock = some k ∨ w.heap.size ≤ k) :
    w1.heap[b]? = some (.cells #[vr, vn, .bool fl] 59) ∧ RdAdd F S w0 w (w1.setCell ⟨b, 1, none⟩ vn') b ts (z.map Prod.fst ++ [x]) fl := by
  have hbn : vn.ownBlock ≠ some b := fun e => by
    obtain ⟨c, hc⟩ := h4.block e
    rw [h1] at hc; simp at hc
  have hb1 : w1.heap[b]? = some (.cells #[vr, vn, .bool fl] 59) := (hg.block b (h.lt b h.inb) (fun e => hbn e.symm)).trans h1
  have hbn' : vn'.ownBlock ≠ some b := fun e => by
    obtain ⟨c, hc⟩ := ho.block e
    rw [hb1] at hc; simp at hc
  refine ⟨hb1, fun k => F k ∨ s.ownBlock = some k ∨ vn'.ownBlock = some k, ?_, (kept_of_grown hg h6).trans (kept_set (F := F) _ _ _ _ h.inb) (fun k hk => .inl hk), fun k hk => .inl hk, ?_⟩
  · have hmat : ∀ (k : Nat) (c : Array Value), w.heap[k]? = some (.cells c 33) → (w1.setCell ⟨b, 1, none⟩ vn').heap[k]? = w.heap[k]? := fun k c hc => by
      have hkb : k ≠ b := fun e => by rw [e, h1] at hc; simp at hc
      have hkv : vn.ownBlock ≠ some k := fun e => by
        obtain ⟨c', hc'⟩ := h4.block e
        rw [hc] at hc'; simp at hc'
      rw [heap_set _ _ _ _ _ hkb]
      exact hg.block k (lt_of_block hc) (fun e => hkv e.symm)
    refine ⟨?_, ?_, ?_, .inl h.inb, ⟨vr, vn', z ++ [(x, s)], ?_, h2, by simp, ho.keep (fun k hv => heap_set _ _ _ _ _ fun e => hbn' (e ▸ hv)), ?_, fun k hk => .inr (.inr hk), ?_⟩, ?_⟩
    · exact h.low.trans (((kept_of_grown hg h6).trans (kept_set (F := F) _ _ _ _ h.inb) (fun k hk => .inl hk)).below h.low.size h.lo)
    · intro k hk
      rcases hk with hk | hk | hk
      · exact h.lo k hk
      · exact (hs.lt hk).1
      · exact (ho.lt hk).1
    · intro k hk
      rw [size_set]
      rcases hk with hk | hk | hk
      · exact Nat.lt_of_lt_of_le (h.lt k hk) hg.size
      · exact Nat.lt_of_lt_of_le (hs.lt hk).2 hg.size
      · exact (ho.lt hk).2
    · rw [heap_set_at hb1]; rfl
    · refine (h5.keep hmat).app ?_
      intro p hp
      simp at hp
      subst hp
      exact hs.keep fun k hk => by
        obtain ⟨c, hc⟩ := ownM_block hs hk
        exact hmat k c hc
    · intro p hp k hk
      rcases List.mem_append.1 hp with hp | hp
      · exact .inl (h7 p hp k hk)
      · simp at hp
        subst hp
        exact .inr (.inl hk)
    · simp; omega
  · intro k hk
    rcases hk with hk | hk | hk
    · exact .inl hk
    · exact .inr (.inl (hS k hk))
    · rcases hn k hk with h | h
      · exact .inl (h6 k h)
      · exact .inr (.inr h)
theorem RdAdd.after {F S : Nat → Prop} {w0 w w1 w2 : World} {b : Nat} {ts : List Tk} {ns : List Nd} {fl : Bool} (hb : Below w.heap.size w w1) (h : RdAdd F S w0 w1 w2 b ts ns fl) : RdAdd F S w0 w w2 b ts ns fl := by
  obtain ⟨F2, h2, k2, i2, f2⟩ := h
  refine ⟨F2, h2, (kept_below hb).trans k2 fun k hk => .inl hk, i2, fun k hk => ?_⟩
  rcases f2 k hk with h | h | h
  · exact .inl h
  · exact .inr (.inl h)
  · exact .inr (.inr (Nat.le_trans hb.size h))
set_option maxRecDepth 100000 in
set_option maxHeartbeats 1000000 in
theorem add_any {F S : Nat → Prop} {w0 w : World} {b : Nat} {ts : List Tk} {ns : List Nd} {fl : Bool} (h : RdAt F w0 w b ts ns fl) (x : Nd) (s : Value) (hs : Mat.OwnM w0.heap.size w s x.sel) (hS : ∀ k, s.ownBlock = some k → S k) :
    Calls Tryz.prog 44 #[ptr b, ndAgg x s] w fun e w' => e = .returned (.int .i64 (addR ns)) ∧ RdAdd F S w0 w w' b ts (addN ns x) (addF ns fl) := by
  obtain ⟨V, hV⟩ : ∃ V, w.alloc (.cells #[.int .u8 (x.kind.toNat : Int), .int .u8 (x.agg.toNat : Int), s, .int .i64 x.win, .int .u8 (x.cmp.toNat : Int), .int .i64 x.val, .int .i64 x.left, .int .i64 x.right] 31) = V := ⟨_, rfl⟩
  have hal : Below w.heap.size w V := by rw [← hV]; exact alloc_below w _
  have hbx : V.heap[w.heap.size]? = some (.cells #[.int .u8 (x.kind.toNat : Int), .int .u8 (x.agg.toNat : Int), s, .int .i64 x.win, .int .u8 (x.cmp.toNat : Int), .int .i64 x.val, .int .i64 x.left, .int .i64 x.right] 31) := by rw [← hV]; exact new_block w _
  have hA := hid hal
  replace h := h.below hal
  replace hs := hs.below hal
  have hone : s.oneCell' = true := by obtain ⟨sa, sc, e⟩ := hs.slice; rw [e]; rfl
  obtain ⟨vr, vn, z, h1, h2, rfl, h4, h5, h6, h7⟩ := h.cell
  have hlen := h.len
  rw [List.length_map] at hlen
  have c1 : V.cell? ⟨b, 1, none⟩ = some vn := by rw [cell_of h1]; rfl
  obtain ⟨an, cn, hvn⟩ := h4.slice
  subst hvn
  have x0 := cell_of hbx 0
  have x1 := cell_of hbx 1
  have x2 := cell_of hbx 2
  have x3 := cell_of hbx 3
  have x4 := cell_of hbx 4
  have x5 := cell_of hbx 5
  have x6 := cell_of hbx 6
  have x7 := cell_of hbx 7
  simp at x0 x1 x2 x3 x4 x5 x6 x7
  unfold ptr ndAgg
  by_cases hf : z.length = 31
  · have e1 : Hid (addR (z.map Prod.fst) = 0) := by show _ = _; simp [addR, hf]
    have e2 : Hid (addN (z.map Prod.fst) x = z.map Prod.fst) := by show _ = _; simp [addN, hf]
    have e3 : Hid (addF (z.map Prod.fst) fl = true) := by show _ = _; simp [addF, hf]
    rw [e1.out, e2.out, e3.out]
    have c2 : V.cell? ⟨b, 2, none⟩ = some (.bool fl) := by rw [cell_of h1]; rfl
    have f2 := frozen_of h1 2
    have hr : Hid (RdAdd F S w0 V (V.setCell ⟨b, 2, none⟩ (.bool true)) b ts (z.map Prod.fst) true) := ⟨F, h.full, kept_set _ _ _ _ h.inb, fun _ h => h, fun _ h => .inl h⟩
    have q : ((z.length : Int) == 31) = true := by simp [hf]
    clear h1 h2 h4 h5 h6 h7 h e1 e2 e3 hf hs hS hbx hal
    go_enter Tryz.func44, Tryz.ntmps44
    go_wp2_with (rw [hV])
    go_ret
    exact ⟨rfl, hr.out.after hA.out⟩
  · have e1 : Hid (addR (z.map Prod.fst) = (z.length : Int)) := by show _ = _; simp [addR, hf]
    have e2 : Hid (addN (z.map Prod.fst) x = z.map Prod.fst ++ [x]) := by show _ = _; simp [addN, hf]
    have e3 : Hid (addF (z.map Prod.fst) fl = fl) := by show _ = _; simp [addF, hf]
    rw [e1.out, e2.out, e3.out]
    have q : ((z.length : Int) == 31) = false := by simp; omega
    go_enter Tryz.func44, Tryz.ntmps44
    go_wp2_with (rw [hV])
    obtain ⟨P, hP⟩ := Classical.axiomOfChoice (r := fun (n : Nat) (p : Option Addr × Nat × World) => (∀ ty, (Builtin.append_ #[22, 22] ty #[.slice an z.length cn, .slice (some ⟨V.heap.size, 0, none⟩) 1 1]).run Tryz.prog ((V.drewN n).alloc (.cells #[.int .u8 (x.kind.toNat : Int), .int .u8 (x.agg.toNat : Int), s, .int .i64 x.win, .int .u8 (x.cmp.toNat : Int), .int .i64 x.val, .int .i64 x.left, .int .i64 x.right] 31)) = .ok (.slice p.1 (z.length + 1) p.2.1) p.2.2) ∧ p.2.2.heap[b]? = some (.cells #[vr, .slice an z.length cn, .bool fl] 59) ∧ RdAdd F S w0 V (p.2.2.setCell ⟨b, 1, none⟩ (.slice p.1 (z.length + 1) p.2.1)) b ts (z.map Prod.fst ++ [x]) fl) (fun n => by
      have hb : Below V.heap.size V (V.drewN n) := below_drewN (n := n) (Below.refl _ _)
      obtain ⟨a', c', w1, g1, g2, g3, g4⟩ := pushZ_run (h4.below hb) x s hone (by omega) (by have := h.low.size; exact this)
      have hb2 : Below (V.drewN n).heap.size (V.drewN n) ((V.drewN n).alloc (.cells #[.int .u8 (x.kind.toNat : Int), .int .u8 (x.agg.toNat : Int), s, .int .i64 x.win, .int .u8 (x.cmp.toNat : Int), .int .i64 x.val, .int .i64 x.left, .int .i64 x.right] 31)) := alloc_below _ _
      have hb3 : Below V.heap.size V ((V.drewN n).alloc (.cells #[.int .u8 (x.kind.toNat : Int), .int .u8 (x.agg.toNat : Int), s, .int .i64 x.win, .int .u8 (x.cmp.toNat : Int), .int .i64 x.val, .int .i64 x.left, .int .i64 x.right] 31)) := hb.trans hb2
      have e1 : ((V.drewN n).alloc (.cells #[.int .u8 (x.kind.toNat : Int), .int .u8 (x.agg.toNat : Int), s, .int .i64 x.win, .int .u8 (x.cmp.toNat : Int), .int .i64 x.val, .int .i64 x.left, .int .i64 x.right] 31)).heap.size = V.heap.size + 1 := by simp
      obtain ⟨k1, k2⟩ := RdAt.push (S := S) (h.below hb3) ((hb3.block b (lt_of_block h1)).trans h1) h2 (h4.below hb3) (h5.below hb3) h6 h7 (by omega) (hs.below hb3) hS g2 g3 (fun k hk => by
        rcases g4 with e | e
        · rw [e] at hk; exact .inl hk
        · rw [e] at hk
          cases hk
          right
          rw [e1]
          exact Nat.le_refl _)
      exact ⟨(a', c', w1), g1, k1, k2.after hb3⟩)
    have RUN : ∀ n, ∀ ty, (Builtin.append_ #[22, 22] ty #[.slice an z.length cn, .slice (some ⟨V.heap.size, 0, none⟩) 1 1]).run Tryz.prog ((V.drewN n).alloc (.cells #[.int .u8 (x.kind.toNat : Int), .int .u8 (x.agg.toNat : Int), s, .int .i64 x.win, .int .u8 (x.cmp.toNat : Int), .int .i64 x.val, .int .i64 x.left, .int .i64 x.right] 31)) = .ok (.slice (P n).1 (z.length + 1) (P n).2.1) (P n).2.2 := fun n => (hP n).1
    have e2' : ∀ n, (P n).2.2.cell? ⟨b, 1, none⟩ = some (.slice an z.length cn) := fun n => by rw [cell_of (hP n).2.1]; rfl
    have f2 : ∀ n, (P n).2.2.frozen? ⟨b, 1, none⟩ = false := fun n => frozen_of (hP n).2.1 1
    have e5 : ∀ n, ((P n).2.2.setCell ⟨b, 1, none⟩ (.slice (P n).1 (z.length + 1) (P n).2.1)).cell? ⟨b, 1, none⟩ = some (.slice (P n).1 (z.length + 1) (P n).2.1) := fun n => by
      rw [cell_of (heap_set_at (hP n).2.1 _)]; rfl
    have FIN : Hid (∀ n m, RdAdd F S w0 w (((P n).2.2.setCell ⟨b, 1, none⟩ (.slice (P n).1 (z.length + 1) (P n).2.1)).drewN m) b ts (z.map Prod.fst ++ [x]) fl) := fun n m => by
      obtain ⟨F', j1, j2, j3, j4⟩ := (hP n).2.2.after hA.out
      have hb := below_drewN (n := m) (Below.refl ((P n).2.2.setCell ⟨b, 1, none⟩ (.slice (P n).1 (z.length + 1) (P n).2.1)).heap.size ((P n).2.2.setCell ⟨b, 1, none⟩ (.slice (P n).1 (z.length + 1) (P n).2.1)))
      exact ⟨F', j1.below hb, j2.trans (F' := fun _ => False) (kept_below hb) fun k hk => hk.elim, j3, j4⟩
    have e2a : (V.alloc (.cells #[.int .u8 (x.kind.toNat : Int), .int .u8 (x.agg.toNat : Int), s, .int .i64 x.win, .int .u8 (x.cmp.toNat : Int), .int .i64 x.val, .int .i64 x.left, .int .i64 x.right] 31)).cell? ⟨b, 1, none⟩ = some (.slice an z.length cn) := ((alloc_below V _).cell (p := ⟨b, 1, none⟩) (World.block_lt_of_cell? V _ c1)).trans c1
    clear hP h1 h2 h4 h5 h6 h7 h hs hS e1 e2 e3
    have hbV := lt_of_block hbx
    clear hbx hal hV
    go_wp2_with fail
    replace RUN := hid RUN
    go_region_law (first | refine step_append rfl (.tmp 18) (.tmp 20) 22 rfl _ _ _ _ (by simp [Act.eval]) (by simp [Act.eval]) (RUN.out 1) ?_ | refine step_append rfl (.tmp 18) (.tmp 20) 22 rfl _ _ _ _ (by simp [Act.eval]) (by simp [Act.eval]) (RUN.out 2) ?_ | refine step_append rfl (.tmp 18) (.tmp 20) 22 rfl _ _ _ _ (by simp [Act.eval]) (by simp [Act.eval]) (RUN.out 3) ?_ | refine step_append rfl (.tmp 18) (.tmp 20) 22 rfl _ _ _ _ (by simp [Act.eval]) (by simp [Act.eval]) (RUN.out 4) ?_)
    all_goals
      go_wp2
      go_ret
      exact ⟨rfl, FIN.out 1 0⟩
end Go.Proofs.YtjhodmpgggaknaaGreatDoor
