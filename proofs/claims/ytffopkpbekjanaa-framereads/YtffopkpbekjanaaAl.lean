/- Contracts of the program's All: the function that it makes, what that goes over. -/
import Derived.Test.YtffopkpbekjanaaWh
namespace Go.Proofs.Ytffopkpbekjanaa
open Go.RowKit Go.Shelf
attribute [local go_sem] Oper.semAt_some

set_option maxHeartbeats 1000000 in
theorem all_fn (v : Value) (zs : List Int) (w : World) (h : IsB w v zs) (hl : zs.length ≤ 140737488355328) :
    Calls Try.prog 16 #[v] w fun e w' => ∃ bx a c, e = .returned (.func (.func 29) #[] #[.pointer (some ⟨bx, 0, none⟩)]) ∧ w'.cell? ⟨bx, 0, none⟩ = some (.slice a zs.length c) ∧ Own w.heap.size w' (.slice a zs.length c) zs ∧ w.heap.size ≤ bx ∧ Below w.heap.size w w' := by
  obtain ⟨a, c, rfl⟩ := h.slice
  have hc := hid (clone_any _ _ _ h hl)
  clear h
  go_enter Try.func16, Try.ntmps16
  go_wp2_with fail
  refine hc.out.mono ?_
  rintro e w1 ⟨a1, c1, rfl, o1, b1⟩
  have O1 := hid o1
  have B1 := hid b1
  clear o1 b1 hc
  go_wp2
  go_ret
  refine ⟨w1.heap.size, a1, c1, rfl, (Boxed.new w1 _ _).cell, O1.out.below (alloc_below _ _), B1.out.size, low' B1.out (alloc_below _ _)⟩
/-- what the k-th round is handed: bytes of its own. -/
def cloneOf (B : Nat) (l : List (List Int)) (k : Nat) (args : Array Value) (W : World) : Prop :=
  ∃ a d, args = #[.slice a (l.getD k []).length d] ∧ Own B W (.slice a (l.getD k []).length d) (l.getD k [])
def blockOf (args : Array Value) (b : Nat) : Prop := (args.getD 0 undef).ownBlock = some b
set_option maxRecDepth 100000 in
set_option maxHeartbeats 4000000 in
theorem all_gives (w0 : World) (bx : Nat) (v : Value) (zs : List Int) (l : List (List Int)) (r : List Int) (hbx : w0.cell? ⟨bx, 0, none⟩ = some v) (h : IsB w0 v zs) (hr : Reads zs l r) :
    Gives Try.prog 29 #[.pointer (some ⟨bx, 0, none⟩)] l.length (cloneOf w0.heap.size l) blockOf (dataOf bx v) w0 := by
  intro lp J Jx M W hW hM hJ hJx hY h0
  obtain ⟨a, c, rfl⟩ := h.slice
  have hbl := World.block_lt_of_cell? w0 ⟨bx, 0, none⟩ hbx
  have cb : W.cell? ⟨bx, 0, none⟩ = some (.slice a zs.length c) := (hW.cell (p := ⟨bx, 0, none⟩) hbl).trans hbx
  have hB := hid (h.below hW)
  have hdl := hid (fun b (hd : dataOf bx (.slice a zs.length c) b) => data_lt h hbl hd)
  have hblW : bx < W.heap.size := Nat.lt_of_lt_of_le hbl hW.size
  replace hM := hid hM
  replace hr := hid hr
  clear h hbx hbl
  refine (callsIn_wide (n := 9)).1 ?_
  refine callsIn_of_wp_marks Try.func29 rfl trivial ?_ rfl
  simp only [Try.ntmps29, List.size_toArray, List.length_cons, List.length_nil, Nat.reduceAdd, Nat.reduceSub, Array.replicate_succ, Array.replicate_zero, List.push_toArray, List.append_toArray, List.nil_append, List.cons_append]
  gi_wp2_with fail
  refine ⟨trivial, (callsIn_wide.2 (frames_any _ _ _ (hB.out.below (alloc_below _ _)))).mono ?_⟩
  rintro e w1 ⟨rfl, hw1⟩
  gi_wp2_with fail
  obtain ⟨W0, hW0⟩ : ∃ W0, (W.alloc (.cells #[Value.func (Fn.yield lp) #[] #[]] 48)).alloc (.cells #[Value.slice a zs.length c] 22) = W0 := ⟨_, rfl⟩
  rw [hW0]
  have hs0 : W0.heap.size = W.heap.size + 2 := by rw [← hW0]; simp
  have hb0 : Below W.heap.size W W0 := by rw [← hW0]; exact ((Below.refl _ W).alloc (Nat.le_refl _) _).alloc (by simp) _
  have hx0 : Boxed W0 W.heap.size 48 (.func (.yield lp) #[] #[]) := by rw [← hW0]; exact (Boxed.new W _ _).alloc _
  have hx1 : W0.cell? ⟨W.heap.size + 1, 0, none⟩ = some (.slice a zs.length c) := by
    rw [← hW0]
    have := (Boxed.new (W.alloc (.cells #[Value.func (Fn.yield lp) #[] #[]] 48)) 22 (.slice a zs.length c)).cell
    rwa [World.size_alloc] at this
  clear hw1 hW0
  refine range_law (gf := 38) (lb := #[.pointer (some ⟨W.heap.size + 1, 0, none⟩)]) rfl (enters_of Try.func38 (by kernel_rfl) rfl)
    (frames_gives W0 (W.heap.size + 1) _ zs l r hx1 (hB.out.below hb0) hr.out) (Below.refl _ _)
    (fun k args V hy => by obtain ⟨_, _, rfl, _⟩ := hy; rfl) (fun k args A r o o' hy hl => piece_put hy hl) (fun _ _ _ _ _ _ _ _ h => h)
    M (fun b hb => ⟨by have := (hM.out b hb).1; omega, fun hd => hd.elim (fun e => by have := (hM.out b hb).1; omega) (fun e => (hM.out b hb).2 (.inr e))⟩) (fun b hb => hb.elim (fun e => by omega) (fun e => by have := hB.out.lt e.1 e.2; omega))
    (fun k V => J k V ∧ Boxed V W.heap.size 48 (.func (.yield lp) #[] #[])) (fun c k V => c = .ret ∧ Jx k V)
    (fun k A B hi hb => ⟨hJ k _ _ hi.1 (hb.mono (by omega)), (hb.block _ (by omega)).trans hi.2⟩) (fun c k A B hi hb => ⟨hi.1, hJx k _ _ hi.2 (hb.mono (by omega))⟩) ⟨hJ 0 _ _ h0 hb0, hx0⟩
    (fun args => { tmps := #[.func (.yield lp) #[] #[], .pointer (some ⟨bx, 0, none⟩), .pointer (some ⟨W.heap.size, 0, none⟩), args.getD 0 undef, .slice a zs.length c, .func (.func 38) #[] #[.pointer (some ⟨W.heap.size + 1, 0, none⟩)], args.getD 0 undef, args.getD 1 undef, undef, undef, undef, undef, undef], defers := [] }) ?assign ?body ?done ?stop
  case assign =>
    rintro i l1 k args V K ⟨a1, d1, rfl, _, _⟩ hK
    gi_wp2
    exact hK
  case done =>
    rintro B V hB ⟨hJm, _⟩ hK
    gi_wp2
    refine ⟨by simp, .inl ⟨_, _, rfl, run_takeDeferred hK, ?_⟩⟩
    exact ⟨_, results_none rfl _ _ _, ⟨_, rfl⟩, .inl (hJ _ _ _ hJm (below_put _ _ _ (by omega)))⟩
  case stop =>
    rintro B c k V hB hk ⟨rfl, hJx'⟩ hK
    gi_wp2
    refine ⟨by simp, .inl ⟨_, _, rfl, run_takeDeferred hK, ?_⟩⟩
    exact ⟨_, results_none rfl _ _ _, ⟨_, rfl⟩, .inr ⟨k, hk, hJx _ _ _ hJx' (below_put _ _ _ (by omega))⟩⟩
  case body =>
    rintro i l1 k args V hk hsz ⟨hJk, hbxd⟩ ⟨a1, d1, rfl, hp, hpb⟩
    have hpl : (l.getD k []).length ≤ 65536 := hr.out.2.1 _ (by simp [List.getD, List.getElem?_eq_getElem hk])
    have hcl := hid (fun (V' : World) (hb : Below V.heap.size V V') => clone_any _ _ _ (hp.below hb) (by omega))
    have fin : Hid (∀ (w1 : World) (a2 : Option Addr) (c2 : Nat), Own V.heap.size w1 (.slice a2 (l.getD k []).length c2) (l.getD k []) → Below V.heap.size V w1 → w1.cell? ⟨W.heap.size, 0, none⟩ = some (.func (.yield lp) #[] #[]) ∧ ∀ W1, (W1 = w1 ∨ W1 = w1.drew) → ∀ i, YieldAt Fence.wide i Try.prog lp #[.slice a2 (l.getD k []).length c2] W1 fun e W' => ∃ t, e = .returned (.bool t) ∧ Kept (fun b => M b ∨ False) V W' ∧ Boxed W' W.heap.size 48 (.func (.yield lp) #[] #[]) ∧ ((t = true ∧ J (k + 1) W') ∨ (t = false ∧ Jx (k + 1) W'))) := by
      intro w1 a2 c2 o1 b1
      have bx1 : Boxed w1 W.heap.size 48 (.func (.yield lp) #[] #[]) := (b1.block _ (by omega)).trans hbxd
      refine ⟨bx1.cell, fun W1 hW1 i => ?_⟩
      have hb11 : Below w1.heap.size w1 W1 := by
        rcases hW1 with rfl | rfl
        · exact Below.refl _ _
        · exact (Below.refl _ _).drew
      have b2 := low' b1 hb11
      have o2 := o1.below hb11
      refine (hY k _ W1 hk (by have := b2.size; omega) (hJ k _ _ hJk (b2.mono (by omega))) ⟨a2, c2, rfl, o2.base (by have := hW.size; omega)⟩ i).mono ?_
      rintro e W' ⟨hk', hor⟩
      have far : ∀ b, blockOf #[.slice a2 (l.getD k []).length c2] b → V.heap.size ≤ b := fun b hb => (o2.lt hb).1
      have hKV : Kept (fun b => M b ∨ False) V W' := (kept_of_below b2).trans hk' fun b hb => hb.elim (fun h => .inl (.inl h)) (fun h => .inr (far b h))
      have hnM : ¬ (M W.heap.size ∨ False) := fun h => h.elim (fun h => by have := (hM.out _ h).1; omega) False.elim
      have hbx' : Boxed W' W.heap.size 48 (.func (.yield lp) #[] #[]) := (hKV.block _ (by omega) hnM).trans hbxd
      rcases hor with ⟨rfl, hj⟩ | ⟨rfl, hj⟩
      · exact ⟨true, rfl, hKV, hbx', .inl ⟨rfl, hj⟩⟩
      · exact ⟨false, rfl, hKV, hbx', .inr ⟨rfl, hj⟩⟩
    have hc := hbxd.cell
    have hbv : Hid (Below V.heap.size V V ∧ Below V.heap.size V V.drew) := ⟨Below.refl _ _, (Below.refl _ _).drew⟩
    clear hp hpb hpl hJk hbxd
    generalize l.getD k [] = p at *
    have hmix : Try.prog.follows .mixedOrders = true := by kernel_rfl
    gi_wp2_with fail
    gi_region_with_o (first | (refine ⟨trivial, (fun h => by cases h), ?_⟩; refine (CallsIn.inRound l1 (callsIn_wide.2 (hcl.out _ (by first | exact hbv.out.1 | exact hbv.out.2)))).mono ?_; rintro e w1 ⟨a2, c2, rfl, o1, b1⟩; obtain ⟨hc1, hyy⟩ := fin.out w1 a2 c2 o1 (by first | exact b1 | exact hbv.out.2.trans b1); obtain ⟨fn1, tm1, as1, bo1, hy1, hR1⟩ := hyy w1 (.inl rfl) (i - 1); obtain ⟨fn2, tm2, as2, bo2, hy2, hR2⟩ := hyy w1.drew (.inr rfl) (i - 1); clear hyy o1 b1) | (refine ⟨(fun h => by cases h), RoundIn.mono (F := Fence.wide.inRound l1) hR1 ?_⟩; rintro e W3 ⟨t, rfl, hk3, hbx3, hor⟩; replace hk3 := hid hk3; replace hbx3 := hid hbx3; replace hor := hid hor) | (refine ⟨(fun h => by cases h), RoundIn.mono (F := Fence.wide.inRound l1) hR2 ?_⟩; rintro e W3 ⟨t, rfl, hk3, hbx3, hor⟩; replace hk3 := hid hk3; replace hbx3 := hid hbx3; replace hor := hid hor))
    all_goals
      rcases hor.out with ⟨rfl, hj⟩ | ⟨rfl, hj⟩
      · gi_wp2
        exact ⟨hk3.out.mono (fun _ _ h => h.elim id False.elim), hj, hbx3.out⟩
      · gi_wp2
        exact ⟨hk3.out.mono (fun _ _ h => h.elim id False.elim), rfl, hj⟩
end Go.Proofs.Ytffopkpbekjanaa
