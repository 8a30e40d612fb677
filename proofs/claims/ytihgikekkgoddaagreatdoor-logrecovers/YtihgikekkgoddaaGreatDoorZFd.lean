/- Joined: FIt FWh FAl. -/
import Derived.Test.YtihgikekkgoddaaGreatDoorZFc
import Derived.Test.YtihgikekkgoddaaGreatDoorZFRL
/- Contracts of the program's frames: the function that it makes, what that goes over. -/
namespace Go.Proofs.YtihgikekkgoddaaGreatDoor.Frm
open Go.RowKit Go.Shelf
attribute [local go_sem] Oper.semAt_some

set_option maxHeartbeats 1000000 in
theorem frames_any (v : Value) (zs : List Int) (w : World) (h : IsB w v zs) :
    Calls Tryz.prog 86 #[v] w fun e w' => e = .returned (.func (.func 103) #[] #[.pointer (some ⟨w.heap.size, 0, none⟩)]) ∧ w' = w.alloc (.cells #[v] 22) := by
  obtain ⟨a, c, rfl⟩ := h.slice
  clear h
  go_enter Tryz.func86, Tryz.ntmps86
  go_wp2
  go_ret
  exact ⟨rfl, rfl⟩
/-- what the k-th round is handed: a piece of the bytes, and how long its frame is. -/
def pieceOf (v : Value) (l : List (List Int)) (k : Nat) (args : Array Value) (W : World) : Prop :=
  ∃ a d, args = #[.slice a (l.getD k []).length d, .int .i64 ((fr (l.getD k [])).length : Int)] ∧ IsB W (.slice a (l.getD k []).length d) (l.getD k []) ∧ ∀ b, (Value.slice a (l.getD k []).length d).ownBlock = some b → v.ownBlock = some b
def slLen : Value → Nat | .slice _ n _ => n | _ => 0
def dataOf (bx : Nat) (v : Value) (b : Nat) : Prop := b = bx ∨ (0 < slLen v ∧ v.ownBlock = some b)
theorem IsB.lt {w : World} {v : Value} {zs : List Int} (h : IsB w v zs) {b : Nat} (h0 : 0 < slLen v) (hb : v.ownBlock = some b) : b < w.heap.size := by
  obtain ⟨a, c, rfl⟩ := h.slice
  obtain ⟨_, _, _, h4⟩ := h.at
  obtain ⟨b', off, rfl, hc⟩ := h4 h0
  cases hb
  exact World.block_lt_of_cell? w _ (hc 0 h0)
theorem data_lt {w : World} {bx : Nat} {v : Value} {zs : List Int} (h : IsB w v zs) (hx : bx < w.heap.size) {b : Nat} (hd : dataOf bx v b) : b < w.heap.size := hd.elim (fun e => e ▸ hx) fun e => h.lt e.1 e.2
theorem IsB.cut {w : World} {a : Option Addr} {n c : Nat} {zs : List Int} (h : IsB w (.slice a n c) zs) (u : Nat) (hu : u ≤ n) : IsB w (.slice (if c = u then a else a.map fun p => ⟨p.block, p.off + u, p.spot⟩) (n - u) (c - u)) (zs.drop u) := by
  obtain ⟨h1, h2, h3, h4⟩ := h.at
  have hm := h.1
  have hl : (zs.drop u).length = n - u := by simp; omega
  refine ⟨by omega, h.byt.drop u, if c = u then a else a.map fun p => ⟨p.block, p.off + u, p.spot⟩, c - u, by rw [hl], by omega, by omega, ?_⟩
  by_cases h0 : zs.length ≤ u
  · left; exact List.drop_eq_nil_of_le h0
  · right
    obtain ⟨b, off, rfl, hc⟩ := h4 (by omega)
    rw [if_neg (by omega)]
    refine ⟨b, off + u, rfl, fun i hi => ?_⟩
    simp at hi
    rw [Nat.add_assoc, hc (u + i) (by omega)]
    simp [List.getD]
set_option maxRecDepth 100000 in
set_option maxHeartbeats 4000000 in
theorem frames_gives (w0 : World) (bx : Nat) (v : Value) (zs : List Int) (l : List (List Int)) (r : List Int) (hbx : w0.cell? ⟨bx, 0, none⟩ = some v) (h : IsB w0 v zs) (hr : Reads zs l r) :
    Gives Tryz.prog 103 #[.pointer (some ⟨bx, 0, none⟩)] l.length (pieceOf v l) (fun _ _ => False) (dataOf bx v) w0 := by
  intro lp J Jx M W hW hM hJ hJx hY h0
  obtain ⟨a, c, rfl⟩ := h.slice
  have hbl := World.block_lt_of_cell? w0 ⟨bx, 0, none⟩ hbx
  have cb : W.cell? ⟨bx, 0, none⟩ = some (.slice a zs.length c) := (hW.cell (p := ⟨bx, 0, none⟩) hbl).trans hbx
  have hB := h.below hW
  refine (callsIn_wide (n := 9)).1 ?_
  refine callsIn_of_wp Tryz.func103 rfl trivial ?_ rfl
  simp only [Tryz.ntmps103, List.size_toArray, List.length_cons, List.length_nil, Nat.reduceAdd, Nat.reduceSub, Array.replicate_succ, Array.replicate_zero, List.push_toArray, List.append_toArray, List.nil_append, List.cons_append]
  gi_wp2
  gi_loopw [3] (fun rv wr => ∃ (k : Nat) (a' : Option Addr) (n' c' : Nat), k ≤ l.length ∧ rv = .slice a' n' c' ∧ IsB wr (.slice a' n' c') (zs.drop (rows (l.take k)).length) ∧ (∀ b, (Value.slice a' n' c').ownBlock = some b → (Value.slice a zs.length c).ownBlock = some b) ∧ J k wr ∧ Kept M W wr)
    (fun rv _ => slLen rv)
  case atStart => exact ⟨0, a, zs.length, c, by omega, rfl, by simpa [rows] using hB, fun _ h => h, h0, Kept.refl _ _⟩
  case round =>
    obtain ⟨k, a', n', c', hk, rfl, hB', hob, hJk, hK⟩ := hrel
    obtain ⟨hn', hnc', hcm'⟩ := hB'.bound
    replace hn' := hid hn'
    by_cases hlt : k < l.length
    · have hn := reads_at hr k hlt
      have hY' := hid (fun (w1 : World) (hb1 : Below wr.heap.size wr w1) args (hy : pieceOf (.slice a zs.length c) l k args w1) => hY k args w1 hlt (Nat.le_trans hK.size hb1.size) (hJ k _ _ hJk (hb1.mono hK.size)) hy 8)
      have hf := hid (first_some hB' hn)
      obtain ⟨hu, _, hu5⟩ := next_le hB'.byt hn
      rw [← hn'.out] at hu
      have hu0 : (((fr (l.getD k [])).length : Int) == 0) = false := by simp only [beq_eq_false_iff_ne, ne_eq]; omega
      have hpc := hid (fun (w1 : World) (hb1 : Below wr.heap.size wr w1) (b o d : Nat) (hb : ∃ off, a' = some ⟨b, off, none⟩) (hp : IsB wr (.slice (some ⟨b, o, none⟩) (l.getD k []).length d) (l.getD k [])) => hY'.out w1 hb1 #[.slice (some ⟨b, o, none⟩) (l.getD k []).length d, .int .i64 ((fr (l.getD k [])).length : Int)] ⟨_, d, rfl, hp.below hb1, fun b2 h2 => by
        obtain ⟨off, rfl⟩ := hb
        exact hob b2 (by simpa [Value.ownBlock] using h2)⟩)
      have hnx := hid (rows_take_succ l k hlt)
      have hcut := hid (hB'.cut (fr (l.getD k [])).length hu)
      clear hn hY' hY
      generalize hpe : l.getD k [] = p at hf hpc hcut hnx hu hu5 hu0
      replace hpe := hid hpe
      obtain ⟨u, hue⟩ : ∃ u, u = (fr p).length := ⟨_, rfl⟩
      have HU := hid hue
      rw [← hue] at hu hu5 hu0 hf hpc hcut
      clear hue
      gi_wp2_with fail
      refine ⟨trivial, (callsIn_wide.2 hf.out).mono ?_⟩
      rintro e w1 ⟨b, off, o, d, rfl, hp, rfl, hb1⟩
      obtain ⟨fn, tmps, assign, body, hy, hR⟩ := hpc.out w1 hb1 b o d ⟨off, rfl⟩ hp
      have HP := hid hp
      have HB1 := hid hb1
      clear hp hb1 hpc hf
      gi_wp2
      refine hR.mono ?_
      rintro e W3 ⟨hk3, (⟨rfl, hJ3⟩ | ⟨rfl, hJ3⟩)⟩
      · have hk3' : Kept M W W3 := (hK.trans (kept_of_below HB1.out (F := fun _ => False)) (fun _ h => h.elim)).trans hk3 (fun b hb => .inl (hb.elim id False.elim))
        have hB3 := hid (hcut.out.block (w' := W3) fun b2 hb2 hlt2 => by
          have hD : dataOf bx (.slice a zs.length c) b2 := .inr ⟨by show 0 < zs.length; have := hn'.out; simp at this; omega, hob b2 (by
            revert hb2
            split
            · exact id
            · exact id)⟩
          have hnM : ¬ M b2 := fun hm => (hM b2 hm).2 hD
          rw [hk3.block b2 (Nat.lt_of_lt_of_le hlt2 HB1.out.size) (fun h => h.elim hnM False.elim), HB1.out.block b2 hlt2])
        have hK3 := hid hk3'
        have HJ3 := hid hJ3
        clear hk3 hk3' hJ3 hy hR hcut
        by_cases hcu : c' = u
        · subst hcu
          have hB3' := hB3.out
          rw [if_pos rfl] at hB3'
          replace hB3 := hid hB3'
          clear hB3'
          have hnn : n' = c' := by omega
          have hfin : Hid (IsB W3 (.slice (some ⟨b, off, none⟩) 0 0) (zs.drop (rows (l.take (k + 1))).length)) := by
            have := hB3.out
            rw [List.drop_drop, hnn, Nat.sub_self] at this
            rw [hnx.out, List.length_append, ← HU.out]
            exact this
          clear hB3
          gi_wp2
          exact ⟨⟨k + 1, _, 0, 0, by omega, rfl, hfin.out, fun b2 h2 => hob b2 h2, HJ3.out, hK3.out⟩, by simp [slLen]; omega⟩
        · have hB3' := hB3.out
          rw [if_neg hcu] at hB3'
          replace hB3 := hid hB3'
          clear hB3'
          have hfin : Hid (IsB W3 (.slice (some ⟨b, off + u, none⟩) (n' - u) (c' - u)) (zs.drop (rows (l.take (k + 1))).length)) := by
            have := hB3.out
            rw [List.drop_drop] at this
            rw [hnx.out, List.length_append, ← HU.out]
            exact this
          clear hB3
          gi_wp2
          exact ⟨⟨k + 1, _, _, _, by omega, rfl, hfin.out, fun b2 h2 => hob b2 h2, HJ3.out, hK3.out⟩, by simp [slLen]; omega⟩
      · gi_wp2
        refine bodyPost_ret (results_none rfl _ _ _) rfl ?_
        exact ⟨⟨_, rfl⟩, .inr ⟨k + 1, by omega, hJ3⟩⟩
    · obtain rfl : k = l.length := by omega
      rw [List.take_length] at hB'
      have hf := hid (first_none hB' (reads_end hr))
      clear hB'
      gi_wp2_with fail
      refine ⟨trivial, (callsIn_wide.2 hf.out).mono ?_⟩
      rintro e w1 ⟨rfl, hb1⟩
      have hJ1 := hid (hJ _ _ _ hJk (hb1.mono hK.size))
      clear hb1 hf
      gi_wp2
      refine ⟨fun _ _ => trivial, ?_⟩
      gi_wp2
      refine bodyPost_ret (results_none rfl _ _ _) rfl ?_
      exact ⟨⟨_, rfl⟩, .inl hJ1.out⟩
end Go.Proofs.YtihgikekkgoddaaGreatDoor.Frm
/- Contract of the program's Whole. -/
namespace Go.Proofs.YtihgikekkgoddaaGreatDoor.Frm
open Go.RowKit Go.Shelf
attribute [local go_sem] Oper.semAt_some

theorem piece_put {v : Value} {l : List (List Int)} {k : Nat} {args : Array Value} {A : World} {r : Nat} {o : Loop} {o' : Obj} (h : pieceOf v l k args A) (hr : A.heap[r]? = some (.loop o)) : pieceOf v l k args (A.putObj r o') := by
  obtain ⟨a, d, h1, h2, h3⟩ := h
  refine ⟨a, d, h1, h2.keep fun b off u hb hu => ?_, h3⟩
  have hne : b ≠ r := by
    rintro rfl
    simp [World.cell?, hr] at hu
  rw [cell_block (World.putObj_heap_other hne)]
  exact hu
set_option maxRecDepth 100000 in
set_option maxHeartbeats 4000000 in
theorem whole_any (v : Value) (zs : List Int) (w : World) (h : IsB w v zs) {l : List (List Int)} {r : List Int} (hr : Reads zs l r) :
    Calls Tryz.prog 55 #[v] w fun e w' => e = .returned (.int .i64 ((rows l).length : Int)) ∧ Below w.heap.size w w' := by
  obtain ⟨a, c, rfl⟩ := h.slice
  refine (callsIn_wide (n := 9)).1 ?_
  refine callsIn_of_wp_marks Tryz.func55 rfl trivial ?_ rfl
  simp only [Tryz.ntmps55, List.size_toArray, List.length_cons, List.length_nil, Nat.reduceAdd, Nat.reduceSub, Array.replicate_succ, Array.replicate_zero, List.push_toArray, List.append_toArray, List.nil_append, List.cons_append]
  have H := hid h
  have HR := hid hr
  clear h hr
  gi_wp2_with fail
  refine ⟨trivial, (callsIn_wide.2 (frames_any _ _ _ (H.out.below (alloc_below _ _)))).mono ?_⟩
  rintro e w1 ⟨rfl, hw1⟩
  gi_wp2_with fail
  obtain ⟨W0, hW0⟩ : ∃ W0, (w.alloc (.cells #[Value.int .i64 0] 3)).alloc (.cells #[Value.slice a zs.length c] 22) = W0 := ⟨_, rfl⟩
  rw [hW0]
  have hs0 : W0.heap.size = w.heap.size + 2 := by rw [← hW0]; simp
  have hb0 : Below w.heap.size w W0 := by rw [← hW0]; exact ((Below.refl _ w).alloc (Nat.le_refl _) _).alloc (by simp) _
  have hx0 : Boxed W0 w.heap.size 3 (.int .i64 0) := by rw [← hW0]; exact (Boxed.new w _ _).alloc _
  have hx1 : W0.cell? ⟨w.heap.size + 1, 0, none⟩ = some (.slice a zs.length c) := by
    rw [← hW0]
    have := (Boxed.new (w.alloc (.cells #[Value.int .i64 0] 3)) 22 (.slice a zs.length c)).cell
    rwa [World.size_alloc] at this
  clear hw1 hW0
  refine range_law (gf := 103) (lb := #[.pointer (some ⟨w.heap.size + 1, 0, none⟩)]) rfl (enters_of Tryz.func103 (by kernel_rfl) rfl)
    (frames_gives W0 (w.heap.size + 1) _ zs l r hx1 (H.out.below hb0) HR.out) (Below.refl _ _)
    (fun k args W hy => by obtain ⟨_, _, rfl, _⟩ := hy; rfl) (fun k args A r o o' hy hl => piece_put hy hl) (fun _ _ _ _ _ _ _ _ h => h)
    (fun b => b = w.heap.size) (fun b hb => ⟨by omega, fun hd => hd.elim (fun e => by omega) (fun e => by have := H.out.lt e.1 e.2; omega)⟩) (fun b hb => hb.elim (fun e => by omega) (fun e => by have := H.out.lt e.1 e.2; omega))
    (fun k W => Boxed W w.heap.size 3 (.int .i64 ((rows (l.take k)).length : Int)) ∧ Below w.heap.size w W) (fun _ _ _ => False)
    (fun k A B hi hb => ⟨(hb.block _ (by omega)).trans hi.1, hi.2.trans (hb.mono (by omega))⟩) (fun _ _ _ _ h _ => h) ⟨hx0, hb0⟩
    (fun args => { tmps := #[.slice a zs.length c, undef, .int .i64 0, .pointer (some ⟨w.heap.size, 0, none⟩), undef, args.getD 1 undef, .slice a zs.length c, .func (.func 103) #[] #[.pointer (some ⟨w.heap.size + 1, 0, none⟩)], args.getD 0 undef, args.getD 1 undef, undef, undef, undef, undef], defers := [] }) ?assign ?body ?done ?stop
  case assign =>
    rintro i l1 k args W K ⟨a1, d1, rfl, _, _⟩ hK
    gi_wp2
    exact hK
  case body =>
    rintro i l1 k args W hk hsz ⟨hx, hB⟩ ⟨a1, d1, rfl, hp, _⟩
    have hle := rows_take_le l (k + 1)
    have hsu := congrArg List.length (rows_take_succ l k hk)
    rw [List.length_append] at hsu
    have hzl := congrArg List.length HR.out.1
    rw [List.length_append] at hzl
    have hbd := H.out.bound
    have hc := hx.cell
    have hf := hx.frozen
    have hge : w.heap.size < W.heap.size := hx.lt
    generalize (fr (l.getD k [])).length = u at *
    generalize (rows (l.take k)).length = n at *
    have hsu' := hid hsu
    have hb9 : (n : Int) + (u : Int) ≤ 9223372036854775807 := by omega
    clear hsu hle hzl hbd
    generalize l.getD k [] = p at *
    gi_wp2
    refine ⟨⟨rfl, rfl, rfl, by simp [World.setCell], fun j _ hj => heap_set _ _ _ _ _ (fun e => hj (.inl e))⟩, ?_, hB.setCell (p := ⟨w.heap.size, 0, none⟩) (Nat.le_refl _) _⟩
    have := hx.set (.int .i64 ((n : Int) + (u : Int)))
    rw [hsu'.out]
    simpa using this
  case done =>
    rintro B W hB ⟨hx, hBW⟩ hK
    rw [List.take_length] at hx
    have hc := hx.cell
    gi_wp2
    refine ⟨by simp, .inl ⟨_, _, rfl, run_takeDeferred hK, ?_⟩⟩
    exact ⟨_, results_tmp rfl _ _ _, rfl, hBW.trans (below_put _ _ _ (by omega))⟩
  case stop =>
    rintro B c k W _ _ h _
    exact h.elim
end Go.Proofs.YtihgikekkgoddaaGreatDoor.Frm
/- Contracts of the program's All: the function that it makes, what that goes over. -/
namespace Go.Proofs.YtihgikekkgoddaaGreatDoor.Frm
open Go.RowKit Go.Shelf
attribute [local go_sem] Oper.semAt_some

set_option maxHeartbeats 1000000 in
theorem all_fn (v : Value) (zs : List Int) (w : World) (h : IsB w v zs) (hl : zs.length ≤ 140737488355328) :
    Calls Tryz.prog 58 #[v] w fun e w' => ∃ bx a c, e = .returned (.func (.func 89) #[] #[.pointer (some ⟨bx, 0, none⟩)]) ∧ w'.cell? ⟨bx, 0, none⟩ = some (.slice a zs.length c) ∧ Own w.heap.size w' (.slice a zs.length c) zs ∧ w.heap.size ≤ bx ∧ Below w.heap.size w w' := by
  obtain ⟨a, c, rfl⟩ := h.slice
  have hc := hid (clone_any _ _ _ h hl)
  clear h
  go_enter Tryz.func58, Tryz.ntmps58
  go_wp2_with fail
  refine hc.out.mono ?_
  rintro e w1 ⟨a1, c1, rfl, o1, b1⟩
  have O1 := hid o1
  have B1 := hid b1
  clear o1 b1 hc
  go_wp2
  go_ret
  refine ⟨w1.heap.size, a1, c1, rfl, (Boxed.new w1 _ _).cell, O1.out.below (alloc_below _ _), B1.out.size, low' B1.out (alloc_below _ _)⟩
/-- what the k-th round is handed: bytes of its own. -/
def cloneOf (B : Nat) (l : List (List Int)) (k : Nat) (args : Array Value) (W : World) : Prop :=
  ∃ a d, args = #[.slice a (l.getD k []).length d] ∧ Own B W (.slice a (l.getD k []).length d) (l.getD k [])
def blockOf (args : Array Value) (b : Nat) : Prop := (args.getD 0 undef).ownBlock = some b
set_option maxRecDepth 100000 in
set_option maxHeartbeats 4000000 in
theorem all_gives (w0 : World) (bx : Nat) (v : Value) (zs : List Int) (l : List (List Int)) (r : List Int) (hbx : w0.cell? ⟨bx, 0, none⟩ = some v) (h : IsB w0 v zs) (hr : Reads zs l r) :
    Gives Tryz.prog 89 #[.pointer (some ⟨bx, 0, none⟩)] l.length (cloneOf w0.heap.size l) blockOf (dataOf bx v) w0 := by
  intro lp J Jx M W hW hM hJ hJx hY h0
  obtain ⟨a, c, rfl⟩ := h.slice
  have hbl := World.block_lt_of_cell? w0 ⟨bx, 0, none⟩ hbx
  have cb : W.cell? ⟨bx, 0, none⟩ = some (.slice a zs.length c) := (hW.cell (p := ⟨bx, 0, none⟩) hbl).trans hbx
  have hB := hid (h.below hW)
  have hdl := hid (fun b (hd : dataOf bx (.slice a zs.length c) b) => data_lt h hbl hd)
  have hblW : bx < W.heap.size := Nat.lt_of_lt_of_le hbl hW.size
  replace hM := hid hM
  replace hr := hid hr
  clear h hbx hbl
  refine (callsIn_wide (n := 9)).1 ?_
  refine callsIn_of_wp_marks Tryz.func89 rfl trivial ?_ rfl
  simp only [Tryz.ntmps89, List.size_toArray, List.length_cons, List.length_nil, Nat.reduceAdd, Nat.reduceSub, Array.replicate_succ, Array.replicate_zero, List.push_toArray, List.append_toArray, List.nil_append, List.cons_append]
  gi_wp2_with fail
  refine ⟨trivial, (callsIn_wide.2 (frames_any _ _ _ (hB.out.below (alloc_below _ _)))).mono ?_⟩
  rintro e w1 ⟨rfl, hw1⟩
  gi_wp2_with fail
  obtain ⟨W0, hW0⟩ : ∃ W0, (W.alloc (.cells #[Value.func (Fn.yield lp) #[] #[]] 122)).alloc (.cells #[Value.slice a zs.length c] 22) = W0 := ⟨_, rfl⟩
  rw [hW0]
  have hs0 : W0.heap.size = W.heap.size + 2 := by rw [← hW0]; simp
  have hb0 : Below W.heap.size W W0 := by rw [← hW0]; exact ((Below.refl _ W).alloc (Nat.le_refl _) _).alloc (by simp) _
  have hx0 : Boxed W0 W.heap.size 122 (.func (.yield lp) #[] #[]) := by rw [← hW0]; exact (Boxed.new W _ _).alloc _
  have hx1 : W0.cell? ⟨W.heap.size + 1, 0, none⟩ = some (.slice a zs.length c) := by
    rw [← hW0]
    have := (Boxed.new (W.alloc (.cells #[Value.func (Fn.yield lp) #[] #[]] 122)) 22 (.slice a zs.length c)).cell
    rwa [World.size_alloc] at this
  clear hw1 hW0
  refine range_law (gf := 103) (lb := #[.pointer (some ⟨W.heap.size + 1, 0, none⟩)]) rfl (enters_of Tryz.func103 (by kernel_rfl) rfl)
    (frames_gives W0 (W.heap.size + 1) _ zs l r hx1 (hB.out.below hb0) hr.out) (Below.refl _ _)
    (fun k args V hy => by obtain ⟨_, _, rfl, _⟩ := hy; rfl) (fun k args A r o o' hy hl => piece_put hy hl) (fun _ _ _ _ _ _ _ _ h => h)
    M (fun b hb => ⟨by have := (hM.out b hb).1; omega, fun hd => hd.elim (fun e => by have := (hM.out b hb).1; omega) (fun e => (hM.out b hb).2 (.inr e))⟩) (fun b hb => hb.elim (fun e => by omega) (fun e => by have := hB.out.lt e.1 e.2; omega))
    (fun k V => J k V ∧ Boxed V W.heap.size 122 (.func (.yield lp) #[] #[])) (fun c k V => c = .ret ∧ Jx k V)
    (fun k A B hi hb => ⟨hJ k _ _ hi.1 (hb.mono (by omega)), (hb.block _ (by omega)).trans hi.2⟩) (fun c k A B hi hb => ⟨hi.1, hJx k _ _ hi.2 (hb.mono (by omega))⟩) ⟨hJ 0 _ _ h0 hb0, hx0⟩
    (fun args => { tmps := #[.func (.yield lp) #[] #[], .pointer (some ⟨bx, 0, none⟩), .pointer (some ⟨W.heap.size, 0, none⟩), args.getD 0 undef, .slice a zs.length c, .func (.func 103) #[] #[.pointer (some ⟨W.heap.size + 1, 0, none⟩)], args.getD 0 undef, args.getD 1 undef, undef, undef, undef, undef, undef], defers := [] }) ?assign ?body ?done ?stop
  case assign =>
    rintro i l1 k args V K ⟨a1, d1, rfl, _, _⟩ hK
    gi_wp2
    exact hK
  case done =>
    rintro B V hB ⟨hJm, _⟩ hK
    gi_wp2
    refine ⟨by simp, .inl ⟨_, _, rfl, run_takeDeferred hK, ?_⟩⟩
    exact ⟨_, results_none rfl _ _ _, ⟨_, rfl⟩, .inl (hJ _ _ _ hJm (below_put _ _ _ (by omega)))⟩
  case stop =>
    rintro B c k V hB hk ⟨rfl, hJx'⟩ hK
    gi_wp2
    refine ⟨by simp, .inl ⟨_, _, rfl, run_takeDeferred hK, ?_⟩⟩
    exact ⟨_, results_none rfl _ _ _, ⟨_, rfl⟩, .inr ⟨k, hk, hJx _ _ _ hJx' (below_put _ _ _ (by omega))⟩⟩
  case body =>
    rintro i l1 k args V hk hsz ⟨hJk, hbxd⟩ ⟨a1, d1, rfl, hp, hpb⟩
    have hpl : (l.getD k []).length ≤ 65536 := hr.out.2.1 _ (by simp [List.getD, List.getElem?_eq_getElem hk])
    have hcl := hid (fun (V' : World) (hb : Below V.heap.size V V') => clone_any _ _ _ (hp.below hb) (by omega))
    have fin : Hid (∀ (w1 : World) (a2 : Option Addr) (c2 : Nat), Own V.heap.size w1 (.slice a2 (l.getD k []).length c2) (l.getD k []) → Below V.heap.size V w1 → w1.cell? ⟨W.heap.size, 0, none⟩ = some (.func (.yield lp) #[] #[]) ∧ ∀ W1, (W1 = w1 ∨ W1 = w1.drew) → ∀ i, YieldAt Fence.wide i Tryz.prog lp #[.slice a2 (l.getD k []).length c2] W1 fun e W' => ∃ t, e = .returned (.bool t) ∧ Kept (fun b => M b ∨ False) V W' ∧ Boxed W' W.heap.size 122 (.func (.yield lp) #[] #[]) ∧ ((t = true ∧ J (k + 1) W') ∨ (t = false ∧ Jx (k + 1) W'))) := by
      intro w1 a2 c2 o1 b1
      have bx1 : Boxed w1 W.heap.size 122 (.func (.yield lp) #[] #[]) := (b1.block _ (by omega)).trans hbxd
      refine ⟨bx1.cell, fun W1 hW1 i => ?_⟩
      have hb11 : Below w1.heap.size w1 W1 := by
        rcases hW1 with rfl | rfl
        · exact Below.refl _ _
        · exact (Below.refl _ _).drew
      have b2 := low' b1 hb11
      have o2 := o1.below hb11
      refine (hY k _ W1 hk (by have := b2.size; omega) (hJ k _ _ hJk (b2.mono (by omega))) ⟨a2, c2, rfl, o2.base (by have := hW.size; omega)⟩ i).mono ?_
      rintro e W' ⟨hk', hor⟩
      have far : ∀ b, blockOf #[.slice a2 (l.getD k []).length c2] b → V.heap.size ≤ b := fun b hb => (o2.lt hb).1
      have hKV : Kept (fun b => M b ∨ False) V W' := (kept_of_below b2).trans hk' fun b hb => hb.elim (fun h => .inl (.inl h)) (fun h => .inr (far b h))
      have hnM : ¬ (M W.heap.size ∨ False) := fun h => h.elim (fun h => by have := (hM.out _ h).1; omega) False.elim
      have hbx' : Boxed W' W.heap.size 122 (.func (.yield lp) #[] #[]) := (hKV.block _ (by omega) hnM).trans hbxd
      rcases hor with ⟨rfl, hj⟩ | ⟨rfl, hj⟩
      · exact ⟨true, rfl, hKV, hbx', .inl ⟨rfl, hj⟩⟩
      · exact ⟨false, rfl, hKV, hbx', .inr ⟨rfl, hj⟩⟩
    have hc := hbxd.cell
    have hbv : Hid (Below V.heap.size V V ∧ Below V.heap.size V V.drew) := ⟨Below.refl _ _, (Below.refl _ _).drew⟩
    clear hp hpb hpl hJk hbxd
    generalize l.getD k [] = p at *
    have hmix : Tryz.prog.follows .mixedOrders = true := by kernel_rfl
    gi_wp2_with fail
    gi_region_with_o (first | (refine ⟨trivial, (fun h => by cases h), ?_⟩; refine (CallsIn.inRound l1 (callsIn_wide.2 (hcl.out _ (by first | exact hbv.out.1 | exact hbv.out.2)))).mono ?_; rintro e w1 ⟨a2, c2, rfl, o1, b1⟩; obtain ⟨hc1, hyy⟩ := fin.out w1 a2 c2 o1 (by first | exact b1 | exact hbv.out.2.trans b1); obtain ⟨fn1, tm1, as1, bo1, hy1, hR1⟩ := hyy w1 (.inl rfl) (i - 1); obtain ⟨fn2, tm2, as2, bo2, hy2, hR2⟩ := hyy w1.drew (.inr rfl) (i - 1); clear hyy o1 b1) | (refine ⟨(fun h => by cases h), RoundIn.mono (F := Fence.wide.inRound l1) hR1 ?_⟩; rintro e W3 ⟨t, rfl, hk3, hbx3, hor⟩; replace hk3 := hid hk3; replace hbx3 := hid hbx3; replace hor := hid hor) | (refine ⟨(fun h => by cases h), RoundIn.mono (F := Fence.wide.inRound l1) hR2 ?_⟩; rintro e W3 ⟨t, rfl, hk3, hbx3, hor⟩; replace hk3 := hid hk3; replace hbx3 := hid hbx3; replace hor := hid hor))
    all_goals
      rcases hor.out with ⟨rfl, hj⟩ | ⟨rfl, hj⟩
      · gi_wp2
        exact ⟨hk3.out.mono (fun _ _ h => h.elim id False.elim), hj, hbx3.out⟩
      · gi_wp2
        exact ⟨hk3.out.mono (fun _ _ h => h.elim id False.elim), rfl, hj⟩
end Go.Proofs.YtihgikekkgoddaaGreatDoor.Frm
