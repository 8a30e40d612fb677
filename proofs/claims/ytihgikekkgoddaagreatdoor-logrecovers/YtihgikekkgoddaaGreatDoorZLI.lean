/- frames and All once more: what they hand on, as long as the bytes lie as they did. -/
import Derived.Test.YtihgikekkgoddaaGreatDoorZLS
import Derived.Test.YtihgikekkgoddaaGreatDoorZFd
namespace Go.Proofs.YtihgikekkgoddaaGreatDoor
open Go.RowKit Go.Shelf
open Frm (IsB Own Byt fr rows Reads nextP slLen low' clone_any frames_any first_some first_none next_le reads_at reads_end rows_take_succ)
attribute [local go_sem] Oper.semAt_some
theorem hidf {p : Prop} (h : p) : Hid p := h

/-- rest is v's slice from U on. -/
def Sub (v : Value) (n U : Nat) (rest : Value) : Prop := ∃ a c a' c', v = .slice a n c ∧ rest = .slice a' (n - U) c' ∧ U ≤ n ∧ n - U ≤ c' ∧ c' ≤ maxLen ∧ (n - U = 0 ∨ ∃ b off, a = some ⟨b, off, none⟩ ∧ a' = some ⟨b, off + U, none⟩)
theorem Sub.isB {w : World} {v rest : Value} {zs : List Int} {U : Nat} (h : Sub v zs.length U rest) (hB : IsB w v zs) : IsB w rest (zs.drop U) := by
  obtain ⟨a, c, a', c', rfl, rfl, hU, h1, h2, h3⟩ := h
  obtain ⟨_, h4, h5, h6⟩ := hB.at
  have hl : (zs.drop U).length = zs.length - U := by simp
  refine ⟨by rw [hl]; omega, hB.byt.drop U, a', c', by rw [hl], by rw [hl]; exact h1, h2, ?_⟩
  rcases h3 with h3 | ⟨b, off, rfl, rfl⟩
  · left; exact List.drop_eq_nil_of_le (by omega)
  · by_cases h0 : zs.length - U = 0
    · left; exact List.drop_eq_nil_of_le (by omega)
    · right
      obtain ⟨b', off', e, hc⟩ := h6 (by omega)
      cases e
      refine ⟨b, off + U, rfl, fun i hi => ?_⟩
      rw [hl] at hi
      rw [Nat.add_assoc, hc (U + i) (by omega)]
      simp [List.getD]
theorem Sub.start {w : World} {v : Value} {zs : List Int} (hB : IsB w v zs) : Sub v zs.length 0 v := by
  obtain ⟨a, c, rfl⟩ := hB.slice
  obtain ⟨_, h4, h5, h6⟩ := hB.at
  refine ⟨a, c, a, c, rfl, rfl, Nat.zero_le _, h4, h5, ?_⟩
  by_cases h0 : zs.length = 0
  · left; omega
  · right
    obtain ⟨b, off, rfl, _⟩ := h6 (by omega)
    exact ⟨b, off, rfl, rfl⟩
def pieceW (l : List (List Int)) (k : Nat) (args : Array Value) (W : World) : Prop :=
  ∃ a d, args = #[.slice a (l.getD k []).length d, .int .i64 ((fr (l.getD k [])).length : Int)] ∧ IsB W (.slice a (l.getD k []).length d) (l.getD k [])
def DatB (bx : Nat) (v : Value) (zs : List Int) (A : World) : Prop := A.cell? ⟨bx, 0, none⟩ = some v ∧ IsB A v zs
set_option maxRecDepth 100000 in
set_option maxHeartbeats 4000000 in
theorem frames3 (w0 : World) (bx : Nat) (v : Value) (zs : List Int) (l : List (List Int)) (r : List Int) (h : IsB w0 v zs) (hr : Reads zs l r) :
    Gives3 Tryz.prog 103 #[.pointer (some ⟨bx, 0, none⟩)] l.length (fun _ => pieceW l) (DatB bx v zs) w0 := by
  intro lp J Jx W hW hJ hJx hY hD h0
  have hst := Sub.start h
  obtain ⟨a, c, rfl⟩ := h.slice
  have cb : W.cell? ⟨bx, 0, none⟩ = some (.slice a zs.length c) := (hD _ _ _ (h0 _ (Nat.le_refl _))).1
  clear h
  refine (callsIn_wide (n := 9)).1 ?_
  refine callsIn_of_wp Tryz.func103 rfl trivial ?_ rfl
  simp only [Tryz.ntmps103, List.size_toArray, List.length_cons, List.length_nil, Nat.reduceAdd, Nat.reduceSub, Array.replicate_succ, Array.replicate_zero, List.push_toArray, List.append_toArray, List.nil_append, List.cons_append]
  gi_wp2
  gi_loopw [3] (fun rv wr => ∃ (k : Nat), k ≤ l.length ∧ Sub (.slice a zs.length c) zs.length (rows (l.take k)).length rv ∧ J W.heap.size k wr ∧ W.heap.size ≤ wr.heap.size)
    (fun rv _ => slLen rv)
  case atStart => exact ⟨0, by omega, by simpa [rows] using hst, h0 _ (Nat.le_refl _), Nat.le_refl _⟩
  case round =>
    obtain ⟨k, hk, hsub, hJk, hsz⟩ := hrel
    have hB0 := (hD _ _ _ hJk).2
    have hB' := hsub.isB hB0
    obtain ⟨a0, c0, a', c', e0, rfl, hU, hn1, hn2, hn3⟩ := hsub
    cases e0
    by_cases hlt : k < l.length
    · have hn := reads_at hr k hlt
      have hY' := hidf (fun (w1 : World) (hb1 : Below wr.heap.size wr w1) args (hy : pieceW l k args w1) => hY W.heap.size k args w1 hlt (Nat.le_refl _) (Nat.le_trans hsz hb1.size) (hJ _ k _ _ hJk (Frm.kept_of_below hb1)) hy 8)
      have hf := hidf (first_some hB' hn)
      obtain ⟨hu, _, hu5⟩ := next_le hB'.byt hn
      have hdl : (zs.drop (rows (l.take k)).length).length = zs.length - (rows (l.take k)).length := by simp
      rw [hdl] at hu
      have hu0 : (((fr (l.getD k [])).length : Int) == 0) = false := by simp only [beq_eq_false_iff_ne, ne_eq]; omega
      have hpc := hidf (fun (w1 : World) (hb1 : Below wr.heap.size wr w1) (b o d : Nat) (hp : IsB wr (.slice (some ⟨b, o, none⟩) (l.getD k []).length d) (l.getD k [])) => hY'.out w1 hb1 #[.slice (some ⟨b, o, none⟩) (l.getD k []).length d, .int .i64 ((fr (l.getD k [])).length : Int)] ⟨_, d, rfl, hp.below hb1⟩)
      have hnx := hidf (rows_take_succ l k hlt)
      clear hn hY' hY hB' hB0
      generalize hpe : l.getD k [] = p at hf hpc hnx hu hu5 hu0
      replace hpe := hidf hpe
      obtain ⟨u, hue⟩ : ∃ u, u = (fr p).length := ⟨_, rfl⟩
      have HU := hidf hue
      rw [← hue] at hu hu5 hu0 hf hpc
      have hnx' : Hid ((rows (l.take (k + 1))).length = (rows (l.take k)).length + u) := by show _ = _; rw [hnx.out, List.length_append, hue]
      clear hue hnx hdl
      replace hr := hidf hr
      replace hn3 := hidf hn3
      generalize hUU : (rows (l.take k)).length = U at *
      replace hUU := hidf hUU
      generalize hN : zs.length - U = N at *
      replace hN := hidf hN
      gi_wp2_with fail
      refine ⟨trivial, (callsIn_wide.2 hf.out).mono ?_⟩
      rintro e w1 ⟨b, off, o, d, rfl, hp, rfl, hb1⟩
      obtain ⟨fn, tmps, assign, body, hy, hR⟩ := hpc.out w1 hb1 b o d hp
      have HB1 := hidf hb1
      clear hp hb1 hpc hf
      gi_wp2
      refine hR.mono ?_
      rintro e W3 ⟨⟨hz3, hk3⟩, (⟨rfl, hJ3⟩ | ⟨rfl, hJ3⟩)⟩
      · have HJ3 := hidf hJ3
        have hsz3 : W.heap.size ≤ W3.heap.size := Nat.le_trans (Nat.le_trans hsz HB1.out.size) hz3
        clear hk3 hJ3 hy hR
        by_cases hcu : c' = u
        · subst hcu
          have hnn : N = c' := by omega
          have hfin : Hid (Sub (.slice a zs.length c) zs.length (rows (l.take (k + 1))).length (.slice (some ⟨b, off, none⟩) 0 0)) := by
            have e1 := hnx'.out
            have e2 := hN.out
            refine ⟨a, c, some ⟨b, off, none⟩, 0, rfl, ?_, by omega, by omega, by omega, .inl (by omega)⟩
            rw [show zs.length - (rows (l.take (k + 1))).length = 0 by omega]
          gi_wp2
          exact ⟨⟨k + 1, by omega, hfin.out, HJ3.out, hsz3⟩, by simp [slLen]; omega⟩
        · have hfin : Hid (Sub (.slice a zs.length c) zs.length (rows (l.take (k + 1))).length (.slice (some ⟨b, off + u, none⟩) (N - u) (c' - u))) := by
            have e1 := hnx'.out
            have e2 := hN.out
            refine ⟨a, c, some ⟨b, off + u, none⟩, c' - u, rfl, ?_, by omega, by omega, by omega, ?_⟩
            · rw [show zs.length - (rows (l.take (k + 1))).length = N - u by omega]
            · rcases hn3.out with h9 | ⟨b9, o9, e9, e8⟩
              · left; omega
              · right
                cases e8
                exact ⟨b, o9, e9, by rw [e1, Nat.add_assoc]⟩
          gi_wp2
          exact ⟨⟨k + 1, by omega, hfin.out, HJ3.out, hsz3⟩, by simp [slLen]; omega⟩
      · have hsz3 : W.heap.size ≤ W3.heap.size := Nat.le_trans (Nat.le_trans hsz HB1.out.size) hz3
        gi_wp2
        refine bodyPost_ret (results_none rfl _ _ _) rfl ?_
        exact ⟨⟨_, rfl⟩, W.heap.size, Nat.le_refl _, hsz3, .inr ⟨k + 1, by omega, hJ3⟩⟩
    · obtain rfl : k = l.length := by omega
      rw [List.take_length] at hB'
      have hf := hidf (first_none hB' (reads_end hr))
      clear hB' hB0
      rw [List.take_length] at *
      gi_wp2_with fail
      refine ⟨trivial, (callsIn_wide.2 hf.out).mono ?_⟩
      rintro e w1 ⟨rfl, hb1⟩
      have hJ1 := hidf (hJ _ _ _ _ hJk (Frm.kept_of_below hb1))
      have hs1 := hidf (Nat.le_trans hsz hb1.size)
      clear hb1 hf
      gi_wp2
      refine ⟨fun _ _ => trivial, ?_⟩
      gi_wp2
      refine bodyPost_ret (results_none rfl _ _ _) rfl ?_
      exact ⟨⟨_, rfl⟩, W.heap.size, Nat.le_refl _, hs1.out, .inl hJ1.out⟩
theorem pieceW_put {l : List (List Int)} {k : Nat} {args : Array Value} {A : World} {r : Nat} {o : Loop} {o' : Obj} (h : pieceW l k args A) (hr : A.heap[r]? = some (.loop o)) : pieceW l k args (A.putObj r o') := by
  obtain ⟨a, d, h1, h2⟩ := h
  refine ⟨a, d, h1, h2.keep fun b off u hb hu => ?_⟩
  have hne : b ≠ r := by
    rintro rfl
    simp [World.cell?, hr] at hu
  rw [Frm.cell_block (World.putObj_heap_other hne)]
  exact hu
theorem pieceW_below {l : List (List Int)} {k : Nat} {args : Array Value} {A C : World} (h : pieceW l k args A) (hb : Below A.heap.size A C) : pieceW l k args C := by
  obtain ⟨a, d, h1, h2⟩ := h
  exact ⟨a, d, h1, h2.below hb⟩
/-- what the k-th round of All is handed: bytes of its own, from B on. -/
def cloneW (B : Nat) (l : List (List Int)) (k : Nat) (args : Array Value) (W : World) : Prop :=
  ∃ a d, args = #[.slice a (l.getD k []).length d] ∧ Frm.Own B W (.slice a (l.getD k []).length d) (l.getD k [])
theorem datB_kept {bx : Nat} {v : Value} {zs : List Int} {A C : World} {F : Nat → Prop} (h : DatB bx v zs A) (hk : Frm.Kept F A C) (hx : ¬ F bx) (hv : 0 < zs.length → ∀ b, v.ownBlock = some b → ¬ F b) : DatB bx v zs C := by
  refine ⟨(World.cell?_of_block (a := ⟨bx, 0, none⟩) (hk.block _ (World.block_lt_of_cell? A ⟨bx, 0, none⟩ h.1) hx)).trans h.1, ?_⟩
  obtain ⟨a, c, rfl⟩ := h.2.slice
  obtain ⟨h1, h2, a', c', e, hc⟩ := h.2
  cases e
  refine ⟨h1, h2, a, c, rfl, hc.1, hc.2.1, ?_⟩
  rcases hc.2.2 with h3 | ⟨b, off, rfl, h3⟩
  · exact .inl h3
  · by_cases h0 : zs.length = 0
    · exact .inl (List.eq_nil_of_length_eq_zero h0)
    · refine .inr ⟨b, off, rfl, fun i hi => ?_⟩
      exact (World.cell?_of_block (a := ⟨b, off + i, none⟩) (hk.block b (World.block_lt_of_cell? A ⟨b, off + i, none⟩ (h3 i hi)) (hv (by omega) b rfl))).trans (h3 i hi)
set_option maxRecDepth 100000 in
set_option maxHeartbeats 4000000 in
theorem all3 (w0 : World) (bx : Nat) (v : Value) (zs : List Int) (l : List (List Int)) (r : List Int) (hbx : w0.cell? ⟨bx, 0, none⟩ = some v) (h : IsB w0 v zs) (hr : Reads zs l r) :
    Gives3 Tryz.prog 89 #[.pointer (some ⟨bx, 0, none⟩)] l.length (fun hi => cloneW hi l) (DatB bx v zs) w0 := by
  intro lp J Jx W hW hJ hJx hY hD h0
  obtain ⟨a, c, rfl⟩ := h.slice
  have hbl := World.block_lt_of_cell? w0 ⟨bx, 0, none⟩ hbx
  have cb : W.cell? ⟨bx, 0, none⟩ = some (.slice a zs.length c) := (hW.cell (p := ⟨bx, 0, none⟩) hbl).trans hbx
  have hB := hidf (h.below hW)
  have hblW : bx < W.heap.size := Nat.lt_of_lt_of_le hbl hW.size
  replace hr := hidf hr
  clear h hbx hbl
  refine (callsIn_wide (n := 9)).1 ?_
  refine callsIn_of_wp_marks Tryz.func89 rfl trivial ?_ rfl
  simp only [Tryz.ntmps89, List.size_toArray, List.length_cons, List.length_nil, Nat.reduceAdd, Nat.reduceSub, Array.replicate_succ, Array.replicate_zero, List.push_toArray, List.append_toArray, List.nil_append, List.cons_append]
  gi_wp2_with fail
  refine ⟨trivial, (callsIn_wide.2 (frames_any _ _ _ (hB.out.below (Frm.alloc_below _ _)))).mono ?_⟩
  rintro e w1 ⟨rfl, hw1⟩
  gi_wp2_with fail
  obtain ⟨W0, hW0⟩ : ∃ W0, (W.alloc (.cells #[Value.func (Fn.yield lp) #[] #[]] 122)).alloc (.cells #[Value.slice a zs.length c] 22) = W0 := ⟨_, rfl⟩
  rw [hW0]
  have hs0 : W0.heap.size = W.heap.size + 2 := by rw [← hW0]; simp
  have hb0 : Below W.heap.size W W0 := by rw [← hW0]; exact ((Below.refl _ W).alloc (Nat.le_refl _) _).alloc (by simp) _
  have hx0 : Boxed W0 W.heap.size 122 (.func (.yield lp) #[] #[]) := by rw [← hW0]; exact (Boxed.new W _ _).alloc _
  have hx1 : W0.cell? ⟨W.heap.size + 1, 0, none⟩ = some (.slice a zs.length c) := by
    rw [← hW0]
    have := (Boxed.new (W.alloc (.cells #[Value.func (Fn.yield lp) #[] #[]] 122)) 22 (.slice a zs.length c)).cell
    rwa [World.size_alloc] at this
  clear hw1 hW0
  refine range3 (gf := 103) (lb := #[.pointer (some ⟨W.heap.size + 1, 0, none⟩)]) rfl (enters_of Tryz.func103 (by kernel_rfl) rfl)
    (frames3 W0 (W.heap.size + 1) _ zs l r (hB.out.below hb0) hr.out)
    (fun hi k args V hy => by obtain ⟨_, _, rfl, _⟩ := hy; rfl) (fun hi k args A r o o' hy hl => pieceW_put hy hl) (fun hi k args A C hy hb => pieceW_below hy hb)
    (fun hi k V => J hi k V ∧ Boxed V W.heap.size 122 (.func (.yield lp) #[] #[]) ∧ V.cell? ⟨W.heap.size + 1, 0, none⟩ = some (.slice a zs.length c))
    (fun c hi k V => c = .ret ∧ Jx hi k V)
    (fun hi k A C hi0 hk => ⟨hJ hi k _ _ hi0.1 (hk.mono (fun b _ h => ⟨by omega, h.2⟩)), (hk.block _ hi0.2.1.lt (by omega)).trans hi0.2.1, (World.cell?_of_block (a := ⟨W.heap.size + 1, 0, none⟩) (hk.block (W.heap.size + 1) (World.block_lt_of_cell? A ⟨W.heap.size + 1, 0, none⟩ hi0.2.2) (by omega))).trans hi0.2.2⟩)
    (fun c hi k A C hi0 hk => ⟨hi0.1, hJx hi k _ _ hi0.2 (hk.mono (fun b _ h => ⟨by omega, h.2⟩))⟩)
    (fun hi k A hi0 => ⟨hi0.2.2, (hD hi k A hi0.1).2⟩) (fun hi hh => ⟨hJ _ _ _ _ (h0 hi (by omega)) (Frm.kept_of_below hb0), hx0, hx1⟩)
    (fun args V => { tmps := #[.func (.yield lp) #[] #[], .pointer (some ⟨bx, 0, none⟩), .pointer (some ⟨W.heap.size, 0, none⟩), args.getD 0 undef, .slice a zs.length c, .func (.func 103) #[] #[.pointer (some ⟨W.heap.size + 1, 0, none⟩)], args.getD 0 undef, args.getD 1 undef, undef, undef, undef, undef, undef], defers := [] })
    (fun _ V => V) (fun _ V => Below.refl _ _) ?assign ?body ?done ?stop
  case assign =>
    rintro i l1 hi k args V K ⟨a1, d1, rfl, _⟩ hK
    gi_wp2
    exact hK
  case done =>
    rintro hi V hh1 hh2 ⟨hJm, _, _⟩ hK
    rw [hs0] at hK
    simp only [hs0]
    gi_wp2
    refine ⟨by simp, .inl ⟨_, _, rfl, run_takeDeferred hK, ?_⟩⟩
    exact ⟨_, results_none rfl _ _ _, ⟨_, rfl⟩, hi, by omega, by simp; omega, .inl (hJ _ _ _ _ hJm (Frm.kept_put _ _ _ ⟨by omega, by omega⟩))⟩
  case stop =>
    rintro hi c k V hh1 hh2 hk ⟨rfl, hJx'⟩ hK
    rw [hs0] at hK
    simp only [hs0]
    gi_wp2
    refine ⟨by simp, .inl ⟨_, _, rfl, run_takeDeferred hK, ?_⟩⟩
    exact ⟨_, results_none rfl _ _ _, ⟨_, rfl⟩, hi, by omega, by simp; omega, .inr ⟨k, hk, hJx _ _ _ _ hJx' (Frm.kept_put _ _ _ ⟨by omega, by omega⟩)⟩⟩
  case body =>
    rintro i l1 hi k args V0 V hk hh1 hh2 ⟨hJk, hbxd, hx1'⟩ ⟨a1, d1, rfl, hp⟩ hkp
    have hsV : V0.heap.size ≤ V.heap.size := hkp.size
    have hpl : (l.getD k []).length ≤ 65536 := hr.out.2.1 _ (by simp [List.getD, List.getElem?_eq_getElem hk])
    have hcl := hidf (fun (V' : World) (hb : Below V.heap.size V V') => clone_any _ _ _ (hp.below hb) (by omega))
    have fin : Hid (∀ (w1 : World) (a2 : Option Addr) (c2 : Nat), Frm.Own V.heap.size w1 (.slice a2 (l.getD k []).length c2) (l.getD k []) → Below V.heap.size V w1 → w1.cell? ⟨W.heap.size, 0, none⟩ = some (.func (.yield lp) #[] #[]) ∧ ∀ W1, (W1 = w1 ∨ W1 = w1.drew) → ∀ i, YieldAt Fence.wide i Tryz.prog lp #[.slice a2 (l.getD k []).length c2] W1 fun e W' => ∃ t, e = .returned (.bool t) ∧ Lies (W.heap.size + 2) hi V W' ∧ ((t = true ∧ J hi (k + 1) W' ∧ Boxed W' W.heap.size 122 (.func (.yield lp) #[] #[]) ∧ W'.cell? ⟨W.heap.size + 1, 0, none⟩ = some (.slice a zs.length c)) ∨ (t = false ∧ Jx hi (k + 1) W'))) := by
      intro w1 a2 c2 o1 b1
      have bx1 : Boxed w1 W.heap.size 122 (.func (.yield lp) #[] #[]) := (b1.block _ hbxd.lt).trans hbxd
      refine ⟨bx1.cell, fun W1 hW1 i => ?_⟩
      have hb11 : Below w1.heap.size w1 W1 := by
        rcases hW1 with rfl | rfl
        · exact Below.refl _ _
        · exact (Below.refl _ _).drew
      have b2 := low' b1 hb11
      have o2 := o1.below hb11
      have hz2 := b2.size
      refine (hY hi k _ W1 hk (by omega) (by omega) (hJ hi k _ _ hJk (Frm.kept_of_below b2)) ⟨a2, c2, rfl, o2.base (by omega)⟩ i).mono ?_
      rintro e W' ⟨⟨hz', hk'⟩, hor⟩
      have same : ∀ b, W.heap.size ≤ b → b < hi → W'.heap[b]? = V.heap[b]? := fun b h1 h2 => (hk' b h1 h2).trans (b2.block b (by omega))
      have li : Lies (W.heap.size + 2) hi V W' := ⟨by omega, fun b h1 h2 => same b (by omega) h2⟩
      rcases hor with ⟨rfl, hj⟩ | ⟨rfl, hj⟩
      · exact ⟨true, rfl, li, .inl ⟨rfl, hj, (same _ (Nat.le_refl _) (by omega)).trans hbxd, (World.cell?_of_block (a := ⟨W.heap.size + 1, 0, none⟩) (same (W.heap.size + 1) (by omega) (by omega))).trans hx1'⟩⟩
      · exact ⟨false, rfl, li, .inr ⟨rfl, hj⟩⟩
    have hc := hbxd.cell
    have hbv : Hid (Below V.heap.size V V ∧ Below V.heap.size V V.drew) := ⟨Below.refl _ _, (Below.refl _ _).drew⟩
    clear hp hpl hJk hbxd hkp hx1'
    generalize l.getD k [] = p at *
    have hmix : Tryz.prog.follows .mixedOrders = true := by kernel_rfl
    gi_wp2_with fail
    gi_region_with_o (first | (refine ⟨trivial, (fun h => by cases h), ?_⟩; refine (CallsIn.inRound l1 (callsIn_wide.2 (hcl.out _ (by first | exact hbv.out.1 | exact hbv.out.2)))).mono ?_; rintro e w1 ⟨a2, c2, rfl, o1, b1⟩; obtain ⟨hc1, hyy⟩ := fin.out w1 a2 c2 o1 (by first | exact b1 | exact hbv.out.2.trans b1); obtain ⟨fn1, tm1, as1, bo1, hy1, hR1⟩ := hyy w1 (.inl rfl) (i - 1); obtain ⟨fn2, tm2, as2, bo2, hy2, hR2⟩ := hyy w1.drew (.inr rfl) (i - 1); clear hyy o1 b1) | (refine ⟨(fun h => by cases h), RoundIn.mono (F := Fence.wide.inRound l1) hR1 ?_⟩; rintro e W3 ⟨t, rfl, hk3, hor⟩; replace hk3 := hidf hk3; replace hor := hidf hor) | (refine ⟨(fun h => by cases h), RoundIn.mono (F := Fence.wide.inRound l1) hR2 ?_⟩; rintro e W3 ⟨t, rfl, hk3, hor⟩; replace hk3 := hidf hk3; replace hor := hidf hor))
    all_goals
      rcases hor.out with ⟨rfl, hj⟩ | ⟨rfl, hj⟩
      · gi_wp2
        exact ⟨hk3.out, hj⟩
      · gi_wp2
        exact ⟨hk3.out, rfl, hj⟩
end Go.Proofs.YtihgikekkgoddaaGreatDoor
