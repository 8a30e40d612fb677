/- Contract of the program's Whole. -/
import Derived.Test.YtffopkpbekjanaaIt
namespace Go.Proofs.Ytffopkpbekjanaa
open Go.RowKit Go.Shelf
attribute [local go_sem] Oper.semAt_some

theorem piece_put {v : Value} {l : List (List Int)} {k : Nat} {args : Array Value} {A : World} {r : Nat} {o : Loop} {o' : Obj} (h : pieceOf v l k args A) (hr : A.heap[r]? = some (.loop o)) : pieceOf v l k args (A.putObj r o') := by
  obtain ⟨a, d, h1, h2, h3⟩ := h
  refine ⟨a, d, h1, h2.keep fun b off u hb hu => ?_, h3⟩
  have hne : b ≠ r := by
    rintro rfl
    simp [World.cell?, hr] at hu
  rw [cell_block (World.putObj_heap_other hne)]
  exact hu
set_option maxRecDepth 100000 in
set_option maxHeartbeats 4000000 in
theorem whole_any (v : Value) (zs : List Int) (w : World) (h : IsB w v zs) {l : List (List Int)} {r : List Int} (hr : Reads zs l r) :
    Calls Try.prog 17 #[v] w fun e w' => e = .returned (.int .i64 ((rows l).length : Int)) ∧ Below w.heap.size w w' := by
  obtain ⟨a, c, rfl⟩ := h.slice
  refine (callsIn_wide (n := 9)).1 ?_
  refine callsIn_of_wp_marks Try.func17 rfl trivial ?_ rfl
  simp only [Try.ntmps17, List.size_toArray, List.length_cons, List.length_nil, Nat.reduceAdd, Nat.reduceSub, Array.replicate_succ, Array.replicate_zero, List.push_toArray, List.append_toArray, List.nil_append, List.cons_append]
  have H := hid h
  have HR := hid hr
  clear h hr
  gi_wp2_with fail
  refine ⟨trivial, (callsIn_wide.2 (frames_any _ _ _ (H.out.below (alloc_below _ _)))).mono ?_⟩
  rintro e w1 ⟨rfl, hw1⟩
  gi_wp2_with fail
  obtain ⟨W0, hW0⟩ : ∃ W0, (w.alloc (.cells #[Value.int .i64 0] 3)).alloc (.cells #[Value.slice a zs.length c] 22) = W0 := ⟨_, rfl⟩
  rw [hW0]
  have hs0 : W0.heap.size = w.heap.size + 2 := by rw [← hW0]; simp
  have hb0 : Below w.heap.size w W0 := by rw [← hW0]; exact ((Below.refl _ w).alloc (Nat.le_refl _) _).alloc (by simp) _
  have hx0 : Boxed W0 w.heap.size 3 (.int .i64 0) := by rw [← hW0]; exact (Boxed.new w _ _).alloc _
  have hx1 : W0.cell? ⟨w.heap.size + 1, 0, none⟩ = some (.slice a zs.length c) := by
    rw [← hW0]
    have := (Boxed.new (w.alloc (.cells #[Value.int .i64 0] 3)) 22 (.slice a zs.length c)).cell
    rwa [World.size_alloc] at this
  clear hw1 hW0
  refine range_law (gf := 38) (lb := #[.pointer (some ⟨w.heap.size + 1, 0, none⟩)]) rfl (enters_of Try.func38 (by kernel_rfl) rfl)
    (frames_gives W0 (w.heap.size + 1) _ zs l r hx1 (H.out.below hb0) HR.out) (Below.refl _ _)
    (fun k args W hy => by obtain ⟨_, _, rfl, _⟩ := hy; rfl) (fun k args A r o o' hy hl => piece_put hy hl) (fun _ _ _ _ _ _ _ _ h => h)
    (fun b => b = w.heap.size) (fun b hb => ⟨by omega, fun hd => hd.elim (fun e => by omega) (fun e => by have := H.out.lt e.1 e.2; omega)⟩) (fun b hb => hb.elim (fun e => by omega) (fun e => by have := H.out.lt e.1 e.2; omega))
    (fun k W => Boxed W w.heap.size 3 (.int .i64 ((rows (l.take k)).length : Int)) ∧ Below w.heap.size w W) (fun _ _ _ => False)
    (fun k A B hi hb => ⟨(hb.block _ (by omega)).trans hi.1, hi.2.trans (hb.mono (by omega))⟩) (fun _ _ _ _ h _ => h) ⟨hx0, hb0⟩
    (fun args => { tmps := #[.slice a zs.length c, undef, .int .i64 0, .pointer (some ⟨w.heap.size, 0, none⟩), undef, args.getD 1 undef, .slice a zs.length c, .func (.func 38) #[] #[.pointer (some ⟨w.heap.size + 1, 0, none⟩)], args.getD 0 undef, args.getD 1 undef, undef, undef, undef, undef], defers := [] }) ?assign ?body ?done ?stop
  case assign =>
    rintro i l1 k args W K ⟨a1, d1, rfl, _, _⟩ hK
    gi_wp2
    exact hK
  case body =>
    rintro i l1 k args W hk hsz ⟨hx, hB⟩ ⟨a1, d1, rfl, hp, _⟩
    have hle := rows_take_le l (k + 1)
    have hsu := congrArg List.length (rows_take_succ l k hk)
    rw [List.length_append] at hsu
    have hzl := congrArg List.length HR.out.1
    rw [List.length_append] at hzl
    have hbd := H.out.bound
    have hc := hx.cell
    have hf := hx.frozen
    have hge : w.heap.size < W.heap.size := hx.lt
    generalize (fr (l.getD k [])).length = u at *
    generalize (rows (l.take k)).length = n at *
    have hsu' := hid hsu
    have hb9 : (n : Int) + (u : Int) ≤ 9223372036854775807 := by omega
    clear hsu hle hzl hbd
    generalize l.getD k [] = p at *
    gi_wp2
    refine ⟨⟨rfl, rfl, rfl, by simp [World.setCell], fun j _ hj => heap_set _ _ _ _ _ (fun e => hj (.inl e))⟩, ?_, hB.setCell (p := ⟨w.heap.size, 0, none⟩) (Nat.le_refl _) _⟩
    have := hx.set (.int .i64 ((n : Int) + (u : Int)))
    rw [hsu'.out]
    simpa using this
  case done =>
    rintro B W hB ⟨hx, hBW⟩ hK
    rw [List.take_length] at hx
    have hc := hx.cell
    gi_wp2
    refine ⟨by simp, .inl ⟨_, _, rfl, run_takeDeferred hK, ?_⟩⟩
    exact ⟨_, results_tmp rfl _ _ _, rfl, hBW.trans (below_put _ _ _ (by omega))⟩
  case stop =>
    rintro B c k W _ _ h _
    exact h.elim
end Go.Proofs.Ytffopkpbekjanaa
