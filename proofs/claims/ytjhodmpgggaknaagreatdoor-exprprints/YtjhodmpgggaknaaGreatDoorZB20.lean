import Derived.Test.YtjhodmpgggaknaaGreatDoorZB19
import Derived.Deep.RegionHeld3
/- Contract of mayBe at a comparison. -/
namespace Go.Proofs.YtjhodmpgggaknaaGreatDoor
open Go.RowKit Go.Shelf Go.Maps
theorem leq_u8 (a : UInt8) (n : Nat) : decide ((a.toNat : Int) ≤ ((n : Nat) : Int)) = decide (a.toNat ≤ n) := by
  by_cases h : a.toNat ≤ n
  · rw [decide_eq_true h, decide_eq_true (by omega)]
  · rw [decide_eq_false h, decide_eq_false (by omega)]
def leafC (x : Nd) (k : Nat) : Bool := match k with
  | 0 => x.left == 0
  | 1 => x.right == 0
  | 2 => decide (x.agg.toNat ≤ 5)
  | 3 => decide (x.cmp.toNat ≤ 5)
  | 4 => Mat.mayM x.sel
  | 5 => winB x.win
  | _ => Num.sat x.val == x.val
theorem leafC_all (x : Nd) : leafB x = (leafC x 0 && leafC x 1 && leafC x 2 && leafC x 3 && leafC x 4 && leafC x 5 && leafC x 6) := by
  unfold leafB leafC winB
  simp only [Bool.and_assoc]
theorem leaf_no {x : Nd} (k : Nat) (hk : k < 7) (h : leafC x k = false) : leafB x = false := by
  rw [leafC_all]
  match k, hk, h with
  | 0, _, h => rw [h]; rfl
  | 1, _, h => rw [h]; simp
  | 2, _, h => rw [h]; simp
  | 3, _, h => rw [h]; simp
  | 4, _, h => rw [h]; simp
  | 5, _, h => rw [h]; simp
  | 6, _, h => rw [h]; simp
theorem leaf_yes {x : Nd} (h : ∀ k, k < 6 → leafC x k = true) : leafB x = (Num.sat x.val == x.val) := by
  rw [leafC_all, h 0 (by decide), h 1 (by decide), h 2 (by decide), h 3 (by decide), h 4 (by decide), h 5 (by decide)]
  rfl
set_option maxRecDepth 100000 in
set_option maxHeartbeats 4000000 in
theorem mayBe_0a (x : Nd) (s : Value) (w : World) (hs : Mat.IsMs w s x.sel) (hk : x.kind = 0) (h0 : leafC x 0 = false) : Calls Tryz.prog 35 #[ndAgg x s] w fun e w' => e = .returned (.bool (mayBeN x)) ∧ Below w.heap.size w w' := by
  obtain ⟨sa, sc, rfl⟩ := hs.slice
  have g1 := bne_u8 x.agg
  have g4 := bne_u8 x.cmp
  have hmay : Hid (mayBeN x = leafB x) := by show _ = _; unfold mayBeN; rw [if_pos hk]
  replace hms := hid hs
  have q0 : (x.left == 0) = false := h0
  replace h0 := hid h0
  have e0 := h0
  clear hs
  unfold ndAgg
  obtain ⟨n, hn⟩ : ∃ n, x.sel.length = n := ⟨_, rfl⟩
  rw [hn]
  rw [hn] at hms
  replace hn := hid hn
  rw [hk]
  go_enter Tryz.func35, Tryz.ntmps35
  go_upto_region 1 with fail
  go_cut [0, 3] from 4 to 27 (fun _ s3 wx => s3 = .bool (compsN x) ∧ wx = w.alloc (.cells #[.int .u8 0, .int .u8 (x.agg.toNat : Int), .slice sa n sc, .int .i64 x.win, .int .u8 (x.cmp.toNat : Int), .int .i64 x.val, .int .i64 x.left, .int .i64 x.right] 31))
  case first =>
    cases e1 : (x.agg != 0)
    · cases n with
      | succ n =>
        have n2 := hid (comps_2 (sel_pos hn.out))
        rw [e1] at g1
        clear e1
        go_wp2
        go_meet
        exact ⟨congrArg Value.bool n2.out.symm, rfl⟩
      | zero =>
        have e2 := sel_nil hn.out
        cases e3 : (x.win != 0)
        · have hw0 := hid (show x.win = 0 by simpa using e3)
          cases e4 : (x.cmp != 0)
          · have n5 := hid (comps_5 e1 e2 e3 e4)
            have hc0 := hid (show (x.cmp.toNat : Int) = 0 by simp at e4; rw [e4]; rfl)
            rw [e1] at g1
            rw [e4] at g4
            clear e1 e2 e4
            go_wp2
            go_meet
            exact ⟨congrArg Value.bool n5.out.symm, by rw [hw0.out, hc0.out]⟩
          · have n4 := hid (comps_4 e4)
            rw [e1] at g1
            rw [e4] at g4
            clear e1 e2 e4
            go_wp2
            go_meet
            exact ⟨congrArg Value.bool n4.out.symm, by rw [hw0.out]⟩
        · have n3 := hid (comps_3 e3)
          rw [e1] at g1
          clear e1 e2
          go_wp2
          go_meet
          exact ⟨congrArg Value.bool n3.out.symm, rfl⟩
    · have n1 := hid (comps_1 e1)
      rw [e1] at g1
      clear e1
      go_wp2
      go_meet
      exact ⟨congrArg Value.bool n1.out.symm, rfl⟩
  case rest =>
    obtain ⟨rfl, rfl⟩ := hcut
    clear g1 g4
    generalize compsN x = cb at *
    have hb0 := hid (alloc_below w (.cells #[.int .u8 0, .int .u8 (x.agg.toNat : Int), .slice sa n sc, .int .i64 x.win, .int .u8 (x.cmp.toNat : Int), .int .i64 x.val, .int .i64 x.left, .int .i64 x.right] 31))
    have hbx := new_block w (.cells #[.int .u8 0, .int .u8 (x.agg.toNat : Int), .slice sa n sc, .int .i64 x.win, .int .u8 (x.cmp.toNat : Int), .int .i64 x.val, .int .i64 x.left, .int .i64 x.right] 31)
    obtain ⟨V, hV⟩ : ∃ V, w.alloc (.cells #[.int .u8 0, .int .u8 (x.agg.toNat : Int), .slice sa n sc, .int .i64 x.win, .int .u8 (x.cmp.toNat : Int), .int .i64 x.val, .int .i64 x.left, .int .i64 x.right] 31) = V := ⟨_, rfl⟩
    rw [hV] at hb0 hbx ⊢
    have hcells : Hid (∀ W', Below V.heap.size V W' → (fun w' : World => w'.cell? ⟨w.heap.size, 6, none⟩ = some (.int .i64 x.left) ∧ w'.cell? ⟨w.heap.size, 7, none⟩ = some (.int .i64 x.right) ∧ w'.cell? ⟨w.heap.size, 1, none⟩ = some (.int .u8 (x.agg.toNat : Int)) ∧ w'.cell? ⟨w.heap.size, 4, none⟩ = some (.int .u8 (x.cmp.toNat : Int)) ∧ w'.cell? ⟨w.heap.size, 2, none⟩ = some (.slice sa n sc) ∧ w'.cell? ⟨w.heap.size, 3, none⟩ = some (.int .i64 x.win) ∧ w'.cell? ⟨w.heap.size, 5, none⟩ = some (.int .i64 x.val)) W') := fun W' hb => by
      have hx := (hb.block _ (lt_of_block hbx)).trans hbx
      exact ⟨by rw [cell_of hx]; rfl, by rw [cell_of hx]; rfl, by rw [cell_of hx]; rfl, by rw [cell_of hx]; rfl, by rw [cell_of hx]; rfl, by rw [cell_of hx]; rfl, by rw [cell_of hx]; rfl⟩
    have x0 := cell_of hbx 0
    simp at x0
    have hsV := hid (fun W' (hb : Below V.heap.size V W') => (hms.out.below hb0.out).below hb)
    clear hbx hV hms
    go_wp2_with fail
    refine wp_region_held_drew (S := fun w' : World => w'.cell? ⟨w.heap.size, 6, none⟩ = some (.int .i64 x.left) ∧ w'.cell? ⟨w.heap.size, 7, none⟩ = some (.int .i64 x.right) ∧ w'.cell? ⟨w.heap.size, 1, none⟩ = some (.int .u8 (x.agg.toNat : Int)) ∧ w'.cell? ⟨w.heap.size, 4, none⟩ = some (.int .u8 (x.cmp.toNat : Int)) ∧ w'.cell? ⟨w.heap.size, 2, none⟩ = some (.slice sa n sc) ∧ w'.cell? ⟨w.heap.size, 3, none⟩ = some (.int .i64 x.win) ∧ w'.cell? ⟨w.heap.size, 5, none⟩ = some (.int .i64 x.val)) (by kernel_rfl) (hcells.out _ (below_drew (Below.refl _ _))) (fun hHeld => ?_)
    have hB := hid (below_drew (Below.refl V.heap.size V))
    refine wpAnyH_take (i := 0) (v := ?v1) (by simp only [List.getElem?_toArray, List.getElem?_cons_zero]; rfl) (by kernel_rfl) (by kernel_rfl) (by kernel_rfl) (by exact fun _ _ _ h => h) (Or.inl ⟨by kernel_rfl, ?hy1⟩) (by assumption) ?rest1; (case hy1 => (intro w hSw; (try dsimp only at hSw); go_simp) <;> with_reducible rfl); go_frame; refine wpAnyH_take (i := 1) (v := ?v2) (by simp only [List.getElem?_toArray, List.getElem?_cons_succ, List.getElem?_cons_zero]; rfl) (by kernel_rfl) (by kernel_rfl) (by kernel_rfl) (by exact fun _ _ _ h => h) (Or.inl ⟨by kernel_rfl, ?hy2⟩) (by assumption) ?rest2; (case hy2 => (intro w hSw; (try dsimp only at hSw); go_simp) <;> with_reducible rfl); go_frame; refine wpAnyH_take (i := 2) (v := ?v3) (by simp only [List.getElem?_toArray, List.getElem?_cons_succ, List.getElem?_cons_zero]; rfl) (by kernel_rfl) (by kernel_rfl) (by kernel_rfl) (by exact fun _ _ _ h => h) (Or.inl ⟨by kernel_rfl, ?hy3⟩) (by assumption) ?rest3; (case hy3 => (intro w hSw; (try dsimp only at hSw); go_simp) <;> with_reducible rfl); go_frame; refine wpAnyH_take (i := 3) (v := ?v4) (by simp only [List.getElem?_toArray, List.getElem?_cons_succ, List.getElem?_cons_zero]; rfl) (by kernel_rfl) (by kernel_rfl) (by kernel_rfl) (by exact fun _ _ _ h => h) (Or.inl ⟨by kernel_rfl, ?hy4⟩) (by assumption) ?rest4; (case hy4 => (intro w hSw; (try dsimp only at hSw); go_simp) <;> with_reducible rfl); go_frame
    refine wpAnyH_take (i := 4) (v := undef) (by simp only [List.getElem?_toArray, List.getElem?_cons_succ, List.getElem?_cons_zero]; rfl) (by kernel_rfl) (by kernel_rfl) (by kernel_rfl) (by exact fun _ _ _ h => h) (Or.inr ⟨by kernel_rfl, rfl⟩) (by assumption) ?_; go_frame; refine wpAnyH_take (i := 5) (v := undef) (by simp only [List.getElem?_toArray, List.getElem?_cons_succ, List.getElem?_cons_zero]; rfl) (by kernel_rfl) (by kernel_rfl) (by kernel_rfl) (by exact fun _ _ _ h => h) (Or.inr ⟨by kernel_rfl, rfl⟩) (by assumption) ?_; go_frame; refine wpAnyH_take (i := 6) (v := undef) (by simp only [List.getElem?_toArray, List.getElem?_cons_succ, List.getElem?_cons_zero]; rfl) (by kernel_rfl) (by kernel_rfl) (by kernel_rfl) (by exact fun _ _ _ h => h) (Or.inr ⟨by kernel_rfl, rfl⟩) (by assumption) ?_; go_frame
    refine wpAnyH_take (i := 7) (v := ?v5) (by simp only [List.getElem?_toArray, List.getElem?_cons_succ, List.getElem?_cons_zero]; rfl) (by kernel_rfl) (by kernel_rfl) (by kernel_rfl) (by exact fun _ _ _ h => h) (Or.inl ⟨by kernel_rfl, ?hy5⟩) (by assumption) ?rest5; (case hy5 => (intro w hSw; (try dsimp only at hSw); go_simp) <;> with_reducible rfl); go_frame; refine wpAnyH_take (i := 8) (v := ?v6) (by simp only [List.getElem?_toArray, List.getElem?_cons_succ, List.getElem?_cons_zero]; rfl) (by kernel_rfl) (by kernel_rfl) (by kernel_rfl) (by exact fun _ _ _ h => h) (Or.inl ⟨by kernel_rfl, ?hy6⟩) (by assumption) ?rest6; (case hy6 => (intro w hSw; (try dsimp only at hSw); go_simp) <;> with_reducible rfl); go_frame
    refine wpAnyH_take (i := 9) (v := undef) (by simp only [List.getElem?_toArray, List.getElem?_cons_succ, List.getElem?_cons_zero]; rfl) (by kernel_rfl) (by kernel_rfl) (by kernel_rfl) (by exact fun _ _ _ h => h) (Or.inr ⟨by kernel_rfl, rfl⟩) (by assumption) ?_; go_frame; refine wpAnyH_take (i := 10) (v := undef) (by simp only [List.getElem?_toArray, List.getElem?_cons_succ, List.getElem?_cons_zero]; rfl) (by kernel_rfl) (by kernel_rfl) (by kernel_rfl) (by exact fun _ _ _ h => h) (Or.inr ⟨by kernel_rfl, rfl⟩) (by assumption) ?_; go_frame; refine wpAnyH_take (i := 11) (v := undef) (by simp only [List.getElem?_toArray, List.getElem?_cons_succ, List.getElem?_cons_zero]; rfl) (by kernel_rfl) (by kernel_rfl) (by kernel_rfl) (by exact fun _ _ _ h => h) (Or.inr ⟨by kernel_rfl, rfl⟩) (by assumption) ?_; go_frame
    refine wpAnyH_take (i := 12) (v := ?v7) (by simp only [List.getElem?_toArray, List.getElem?_cons_succ, List.getElem?_cons_zero]; rfl) (by kernel_rfl) (by kernel_rfl) (by kernel_rfl) (by exact fun _ _ _ h => h) (Or.inl ⟨by kernel_rfl, ?hy7⟩) (by assumption) ?rest7; (case hy7 => (intro w hSw; (try dsimp only at hSw); go_simp) <;> with_reducible rfl); go_frame; refine wpAnyH_take (i := 13) (v := ?v8) (by simp only [List.getElem?_toArray, List.getElem?_cons_succ, List.getElem?_cons_zero]; rfl) (by kernel_rfl) (by kernel_rfl) (by kernel_rfl) (by exact fun _ _ _ h => h) (Or.inl ⟨by kernel_rfl, ?hy8⟩) (by assumption) ?rest8; (case hy8 => (intro w hSw; (try dsimp only at hSw); go_simp) <;> with_reducible rfl); go_frame
    refine wpAnyH_take (i := 14) (v := undef) (by simp only [List.getElem?_toArray, List.getElem?_cons_succ, List.getElem?_cons_zero]; rfl) (by kernel_rfl) (by kernel_rfl) (by kernel_rfl) (by exact fun _ _ _ h => h) (Or.inr ⟨by kernel_rfl, rfl⟩) (by assumption) ?_; go_frame; refine wpAnyH_take (i := 15) (v := undef) (by simp only [List.getElem?_toArray, List.getElem?_cons_succ, List.getElem?_cons_zero]; rfl) (by kernel_rfl) (by kernel_rfl) (by kernel_rfl) (by exact fun _ _ _ h => h) (Or.inr ⟨by kernel_rfl, rfl⟩) (by assumption) ?_; go_frame; refine wpAnyH_take (i := 16) (v := undef) (by simp only [List.getElem?_toArray, List.getElem?_cons_succ, List.getElem?_cons_zero]; rfl) (by kernel_rfl) (by kernel_rfl) (by kernel_rfl) (by exact fun _ _ _ h => h) (Or.inr ⟨by kernel_rfl, rfl⟩) (by assumption) ?_; go_frame
    refine wpAnyH_take (i := 17) (v := ?v9) (by simp only [List.getElem?_toArray, List.getElem?_cons_succ, List.getElem?_cons_zero]; rfl) (by kernel_rfl) (by kernel_rfl) (by kernel_rfl) (by exact fun _ _ _ h => h) (Or.inl ⟨by kernel_rfl, ?hy9⟩) (by assumption) ?rest9; (case hy9 => (intro w hSw; (try dsimp only at hSw); go_simp) <;> with_reducible rfl); go_frame; refine wpAnyH_take (i := 18) (v := ?v10) (by simp only [List.getElem?_toArray, List.getElem?_cons_succ, List.getElem?_cons_zero]; rfl) (by kernel_rfl) (by kernel_rfl) (by kernel_rfl) (by exact fun _ _ _ h => h) (Or.inl ⟨by kernel_rfl, ?hy10⟩) (by assumption) ?rest10; (case hy10 => (intro w hSw; (try dsimp only at hSw); go_simp) <;> with_reducible rfl); go_frame
    refine wpAnyH_take (i := 19) (v := undef) (by simp only [List.getElem?_toArray, List.getElem?_cons_succ, List.getElem?_cons_zero]; rfl) (by kernel_rfl) (by kernel_rfl) (by kernel_rfl) (by exact fun _ _ _ h => h) (Or.inr ⟨by kernel_rfl, rfl⟩) (by assumption) ?_; go_frame; refine wpAnyH_take (i := 20) (v := undef) (by simp only [List.getElem?_toArray, List.getElem?_cons_succ, List.getElem?_cons_zero]; rfl) (by kernel_rfl) (by kernel_rfl) (by kernel_rfl) (by exact fun _ _ _ h => h) (Or.inr ⟨by kernel_rfl, rfl⟩) (by assumption) ?_; go_frame; refine wpAnyH_take (i := 21) (v := undef) (by simp only [List.getElem?_toArray, List.getElem?_cons_succ, List.getElem?_cons_zero]; rfl) (by kernel_rfl) (by kernel_rfl) (by kernel_rfl) (by exact fun _ _ _ h => h) (Or.inr ⟨by kernel_rfl, rfl⟩) (by assumption) ?_; go_frame
    refine wpAnyH_take (i := 22) (v := ?v11) (by simp only [List.getElem?_toArray, List.getElem?_cons_succ, List.getElem?_cons_zero]; rfl) (by kernel_rfl) (by kernel_rfl) (by kernel_rfl) (by exact fun _ _ _ h => h) (Or.inl ⟨by kernel_rfl, ?hy11⟩) (by assumption) ?rest11; (case hy11 => (intro w hSw; (try dsimp only at hSw); go_simp) <;> with_reducible rfl); go_frame; refine wpAnyH_take (i := 23) (v := ?v12) (by simp only [List.getElem?_toArray, List.getElem?_cons_succ, List.getElem?_cons_zero]; rfl) (by kernel_rfl) (by kernel_rfl) (by kernel_rfl) (by exact fun _ _ _ h => h) (Or.inl ⟨by kernel_rfl, ?hy12⟩) (by assumption) ?rest12; (case hy12 => (intro w hSw; (try dsimp only at hSw); go_simp) <;> with_reducible rfl); go_frame
    refine wpAnyH_take (i := 24) (v := undef) (by simp only [List.getElem?_toArray, List.getElem?_cons_succ, List.getElem?_cons_zero]; rfl) (by kernel_rfl) (by kernel_rfl) (by kernel_rfl) (by exact fun _ _ _ h => h) (Or.inr ⟨by kernel_rfl, rfl⟩) (by assumption) ?_; go_frame; refine wpAnyH_take (i := 25) (v := undef) (by simp only [List.getElem?_toArray, List.getElem?_cons_succ, List.getElem?_cons_zero]; rfl) (by kernel_rfl) (by kernel_rfl) (by kernel_rfl) (by exact fun _ _ _ h => h) (Or.inr ⟨by kernel_rfl, rfl⟩) (by assumption) ?_; go_frame; refine wpAnyH_take (i := 26) (v := undef) (by simp only [List.getElem?_toArray, List.getElem?_cons_succ, List.getElem?_cons_zero]; rfl) (by kernel_rfl) (by kernel_rfl) (by kernel_rfl) (by exact fun _ _ _ h => h) (Or.inr ⟨by kernel_rfl, rfl⟩) (by assumption) ?_; go_frame
    refine wpAnyH_take (i := 27) (v := ?v13) (by simp only [List.getElem?_toArray, List.getElem?_cons_succ, List.getElem?_cons_zero]; rfl) (by kernel_rfl) (by kernel_rfl) (by kernel_rfl) (by exact fun _ _ _ h => h) (Or.inl ⟨by kernel_rfl, ?hy13⟩) (by assumption) ?rest13; (case hy13 => (intro w hSw; (try dsimp only at hSw); go_simp) <;> with_reducible rfl); go_frame; refine wpAnyH_take (i := 28) (v := ?v14) (by simp only [List.getElem?_toArray, List.getElem?_cons_succ, List.getElem?_cons_zero]; rfl) (by kernel_rfl) (by kernel_rfl) (by kernel_rfl) (by exact fun _ _ _ h => h) (Or.inl ⟨by kernel_rfl, ?hy14⟩) (by assumption) ?rest14; (case hy14 => (intro w hSw; (try dsimp only at hSw); go_simp) <;> with_reducible rfl); go_frame
    refine wpAnyH_take (i := 29) (v := undef) (by simp only [List.getElem?_toArray, List.getElem?_cons_succ, List.getElem?_cons_zero]; rfl) (by kernel_rfl) (by kernel_rfl) (by kernel_rfl) (by exact fun _ _ _ h => h) (Or.inr ⟨by kernel_rfl, rfl⟩) (by assumption) ?_; go_frame; refine wpAnyH_take (i := 30) (v := undef) (by simp only [List.getElem?_toArray, List.getElem?_cons_succ, List.getElem?_cons_zero]; rfl) (by kernel_rfl) (by kernel_rfl) (by kernel_rfl) (by exact fun _ _ _ h => h) (Or.inr ⟨by kernel_rfl, rfl⟩) (by assumption) ?_; go_frame; refine wpAnyH_take (i := 31) (v := undef) (by simp only [List.getElem?_toArray, List.getElem?_cons_succ, List.getElem?_cons_zero]; rfl) (by kernel_rfl) (by kernel_rfl) (by kernel_rfl) (by exact fun _ _ _ h => h) (Or.inr ⟨by kernel_rfl, rfl⟩) (by assumption) ?_; go_frame; refine wpAnyH_take (i := 32) (v := undef) (by simp only [List.getElem?_toArray, List.getElem?_cons_succ, List.getElem?_cons_zero]; rfl) (by kernel_rfl) (by kernel_rfl) (by kernel_rfl) (by exact fun _ _ _ h => h) (Or.inr ⟨by kernel_rfl, rfl⟩) (by assumption) ?_; go_frame; refine wpAnyH_take (i := 33) (v := undef) (by simp only [List.getElem?_toArray, List.getElem?_cons_succ, List.getElem?_cons_zero]; rfl) (by kernel_rfl) (by kernel_rfl) (by kernel_rfl) (by exact fun _ _ _ h => h) (Or.inr ⟨by kernel_rfl, rfl⟩) (by assumption) ?_; go_frame; refine wpAnyH_take (i := 34) (v := undef) (by simp only [List.getElem?_toArray, List.getElem?_cons_succ, List.getElem?_cons_zero]; rfl) (by kernel_rfl) (by kernel_rfl) (by kernel_rfl) (by exact fun _ _ _ h => h) (Or.inr ⟨by kernel_rfl, rfl⟩) (by assumption) ?_; go_frame
    refine wpAnyH_take (i := 35) (v := ?v15) (by simp only [List.getElem?_toArray, List.getElem?_cons_succ, List.getElem?_cons_zero]; rfl) (by kernel_rfl) (by kernel_rfl) (by kernel_rfl) (by exact fun _ _ _ h => h) (Or.inl ⟨by kernel_rfl, ?hy15⟩) (by assumption) ?rest15; (case hy15 => (intro w hSw; (try dsimp only at hSw); go_simp) <;> with_reducible rfl); go_frame; refine wpAnyH_take (i := 36) (v := ?v16) (by simp only [List.getElem?_toArray, List.getElem?_cons_succ, List.getElem?_cons_zero]; rfl) (by kernel_rfl) (by kernel_rfl) (by kernel_rfl) (by exact fun _ _ _ h => h) (Or.inl ⟨by kernel_rfl, ?hy16⟩) (by assumption) ?rest16; (case hy16 => (intro w hSw; (try dsimp only at hSw); go_simp) <;> with_reducible rfl); go_frame
    refine wpAnyH_done (by kernel_rfl) ?_ _
    go_wp2
    go_ret
    exact ⟨congrArg (fun b => Ending.returned (.bool b)) (hmay.out.trans (leaf_no 0 (by decide) e0.out)).symm, hb0.out.trans (hB.out.mono hb0.out.size)⟩
set_option maxRecDepth 100000 in
set_option maxHeartbeats 4000000 in
theorem mayBe_0b (x : Nd) (s : Value) (w : World) (hs : Mat.IsMs w s x.sel) (hk : x.kind = 0) (h0 : leafC x 0 = true) (h1 : leafC x 1 = false) : Calls Tryz.prog 35 #[ndAgg x s] w fun e w' => e = .returned (.bool (mayBeN x)) ∧ Below w.heap.size w w' := by
  obtain ⟨sa, sc, rfl⟩ := hs.slice
  have g1 := bne_u8 x.agg
  have g4 := bne_u8 x.cmp
  have hmay : Hid (mayBeN x = leafB x) := by show _ = _; unfold mayBeN; rw [if_pos hk]
  replace hms := hid hs
  have q0 : (x.left == 0) = true := h0
  have q1 : (x.right == 0) = false := h1
  replace h1 := hid h1
  have e1 := h1
  clear hs
  unfold ndAgg
  obtain ⟨n, hn⟩ : ∃ n, x.sel.length = n := ⟨_, rfl⟩
  rw [hn]
  rw [hn] at hms
  replace hn := hid hn
  rw [hk]
  go_enter Tryz.func35, Tryz.ntmps35
  go_upto_region 1 with fail
  go_cut [0, 3] from 4 to 27 (fun _ s3 wx => s3 = .bool (compsN x) ∧ wx = w.alloc (.cells #[.int .u8 0, .int .u8 (x.agg.toNat : Int), .slice sa n sc, .int .i64 x.win, .int .u8 (x.cmp.toNat : Int), .int .i64 x.val, .int .i64 x.left, .int .i64 x.right] 31))
  case first =>
    cases e1 : (x.agg != 0)
    · cases n with
      | succ n =>
        have n2 := hid (comps_2 (sel_pos hn.out))
        rw [e1] at g1
        clear e1
        go_wp2
        go_meet
        exact ⟨congrArg Value.bool n2.out.symm, rfl⟩
      | zero =>
        have e2 := sel_nil hn.out
        cases e3 : (x.win != 0)
        · have hw0 := hid (show x.win = 0 by simpa using e3)
          cases e4 : (x.cmp != 0)
          · have n5 := hid (comps_5 e1 e2 e3 e4)
            have hc0 := hid (show (x.cmp.toNat : Int) = 0 by simp at e4; rw [e4]; rfl)
            rw [e1] at g1
            rw [e4] at g4
            clear e1 e2 e4
            go_wp2
            go_meet
            exact ⟨congrArg Value.bool n5.out.symm, by rw [hw0.out, hc0.out]⟩
          · have n4 := hid (comps_4 e4)
            rw [e1] at g1
            rw [e4] at g4
            clear e1 e2 e4
            go_wp2
            go_meet
            exact ⟨congrArg Value.bool n4.out.symm, by rw [hw0.out]⟩
        · have n3 := hid (comps_3 e3)
          rw [e1] at g1
          clear e1 e2
          go_wp2
          go_meet
          exact ⟨congrArg Value.bool n3.out.symm, rfl⟩
    · have n1 := hid (comps_1 e1)
      rw [e1] at g1
      clear e1
      go_wp2
      go_meet
      exact ⟨congrArg Value.bool n1.out.symm, rfl⟩
  case rest =>
    obtain ⟨rfl, rfl⟩ := hcut
    clear g1 g4
    generalize compsN x = cb at *
    have hb0 := hid (alloc_below w (.cells #[.int .u8 0, .int .u8 (x.agg.toNat : Int), .slice sa n sc, .int .i64 x.win, .int .u8 (x.cmp.toNat : Int), .int .i64 x.val, .int .i64 x.left, .int .i64 x.right] 31))
    have hbx := new_block w (.cells #[.int .u8 0, .int .u8 (x.agg.toNat : Int), .slice sa n sc, .int .i64 x.win, .int .u8 (x.cmp.toNat : Int), .int .i64 x.val, .int .i64 x.left, .int .i64 x.right] 31)
    obtain ⟨V, hV⟩ : ∃ V, w.alloc (.cells #[.int .u8 0, .int .u8 (x.agg.toNat : Int), .slice sa n sc, .int .i64 x.win, .int .u8 (x.cmp.toNat : Int), .int .i64 x.val, .int .i64 x.left, .int .i64 x.right] 31) = V := ⟨_, rfl⟩
    rw [hV] at hb0 hbx ⊢
    have hcells : Hid (∀ W', Below V.heap.size V W' → (fun w' : World => w'.cell? ⟨w.heap.size, 6, none⟩ = some (.int .i64 x.left) ∧ w'.cell? ⟨w.heap.size, 7, none⟩ = some (.int .i64 x.right) ∧ w'.cell? ⟨w.heap.size, 1, none⟩ = some (.int .u8 (x.agg.toNat : Int)) ∧ w'.cell? ⟨w.heap.size, 4, none⟩ = some (.int .u8 (x.cmp.toNat : Int)) ∧ w'.cell? ⟨w.heap.size, 2, none⟩ = some (.slice sa n sc) ∧ w'.cell? ⟨w.heap.size, 3, none⟩ = some (.int .i64 x.win) ∧ w'.cell? ⟨w.heap.size, 5, none⟩ = some (.int .i64 x.val)) W') := fun W' hb => by
      have hx := (hb.block _ (lt_of_block hbx)).trans hbx
      exact ⟨by rw [cell_of hx]; rfl, by rw [cell_of hx]; rfl, by rw [cell_of hx]; rfl, by rw [cell_of hx]; rfl, by rw [cell_of hx]; rfl, by rw [cell_of hx]; rfl, by rw [cell_of hx]; rfl⟩
    have x0 := cell_of hbx 0
    simp at x0
    have hsV := hid (fun W' (hb : Below V.heap.size V W') => (hms.out.below hb0.out).below hb)
    clear hbx hV hms
    go_wp2_with fail
    refine wp_region_held_drew (S := fun w' : World => w'.cell? ⟨w.heap.size, 6, none⟩ = some (.int .i64 x.left) ∧ w'.cell? ⟨w.heap.size, 7, none⟩ = some (.int .i64 x.right) ∧ w'.cell? ⟨w.heap.size, 1, none⟩ = some (.int .u8 (x.agg.toNat : Int)) ∧ w'.cell? ⟨w.heap.size, 4, none⟩ = some (.int .u8 (x.cmp.toNat : Int)) ∧ w'.cell? ⟨w.heap.size, 2, none⟩ = some (.slice sa n sc) ∧ w'.cell? ⟨w.heap.size, 3, none⟩ = some (.int .i64 x.win) ∧ w'.cell? ⟨w.heap.size, 5, none⟩ = some (.int .i64 x.val)) (by kernel_rfl) (hcells.out _ (below_drew (Below.refl _ _))) (fun hHeld => ?_)
    have hB := hid (below_drew (Below.refl V.heap.size V))
    refine wpAnyH_take (i := 0) (v := ?v17) (by simp only [List.getElem?_toArray, List.getElem?_cons_zero]; rfl) (by kernel_rfl) (by kernel_rfl) (by kernel_rfl) (by exact fun _ _ _ h => h) (Or.inl ⟨by kernel_rfl, ?hy17⟩) (by assumption) ?rest17; (case hy17 => (intro w hSw; (try dsimp only at hSw); go_simp) <;> with_reducible rfl); go_frame; refine wpAnyH_take (i := 1) (v := ?v18) (by simp only [List.getElem?_toArray, List.getElem?_cons_succ, List.getElem?_cons_zero]; rfl) (by kernel_rfl) (by kernel_rfl) (by kernel_rfl) (by exact fun _ _ _ h => h) (Or.inl ⟨by kernel_rfl, ?hy18⟩) (by assumption) ?rest18; (case hy18 => (intro w hSw; (try dsimp only at hSw); go_simp) <;> with_reducible rfl); go_frame; refine wpAnyH_take (i := 2) (v := ?v19) (by simp only [List.getElem?_toArray, List.getElem?_cons_succ, List.getElem?_cons_zero]; rfl) (by kernel_rfl) (by kernel_rfl) (by kernel_rfl) (by exact fun _ _ _ h => h) (Or.inl ⟨by kernel_rfl, ?hy19⟩) (by assumption) ?rest19; (case hy19 => (intro w hSw; (try dsimp only at hSw); go_simp) <;> with_reducible rfl); go_frame; refine wpAnyH_take (i := 3) (v := ?v20) (by simp only [List.getElem?_toArray, List.getElem?_cons_succ, List.getElem?_cons_zero]; rfl) (by kernel_rfl) (by kernel_rfl) (by kernel_rfl) (by exact fun _ _ _ h => h) (Or.inl ⟨by kernel_rfl, ?hy20⟩) (by assumption) ?rest20; (case hy20 => (intro w hSw; (try dsimp only at hSw); go_simp) <;> with_reducible rfl); go_frame; refine wpAnyH_take (i := 4) (v := ?v21) (by simp only [List.getElem?_toArray, List.getElem?_cons_succ, List.getElem?_cons_zero]; rfl) (by kernel_rfl) (by kernel_rfl) (by kernel_rfl) (by exact fun _ _ _ h => h) (Or.inl ⟨by kernel_rfl, ?hy21⟩) (by assumption) ?rest21; (case hy21 => (intro w hSw; (try dsimp only at hSw); go_simp) <;> with_reducible rfl); go_frame; refine wpAnyH_take (i := 5) (v := ?v22) (by simp only [List.getElem?_toArray, List.getElem?_cons_succ, List.getElem?_cons_zero]; rfl) (by kernel_rfl) (by kernel_rfl) (by kernel_rfl) (by exact fun _ _ _ h => h) (Or.inl ⟨by kernel_rfl, ?hy22⟩) (by assumption) ?rest22; (case hy22 => (intro w hSw; (try dsimp only at hSw); go_simp) <;> with_reducible rfl); go_frame; refine wpAnyH_take (i := 6) (v := ?v23) (by simp only [List.getElem?_toArray, List.getElem?_cons_succ, List.getElem?_cons_zero]; rfl) (by kernel_rfl) (by kernel_rfl) (by kernel_rfl) (by exact fun _ _ _ h => h) (Or.inl ⟨by kernel_rfl, ?hy23⟩) (by assumption) ?rest23; (case hy23 => (intro w hSw; (try dsimp only at hSw); go_simp) <;> with_reducible rfl); go_frame; refine wpAnyH_take (i := 7) (v := ?v24) (by simp only [List.getElem?_toArray, List.getElem?_cons_succ, List.getElem?_cons_zero]; rfl) (by kernel_rfl) (by kernel_rfl) (by kernel_rfl) (by exact fun _ _ _ h => h) (Or.inl ⟨by kernel_rfl, ?hy24⟩) (by assumption) ?rest24; (case hy24 => (intro w hSw; (try dsimp only at hSw); go_simp) <;> with_reducible rfl); go_frame; refine wpAnyH_take (i := 8) (v := ?v25) (by simp only [List.getElem?_toArray, List.getElem?_cons_succ, List.getElem?_cons_zero]; rfl) (by kernel_rfl) (by kernel_rfl) (by kernel_rfl) (by exact fun _ _ _ h => h) (Or.inl ⟨by kernel_rfl, ?hy25⟩) (by assumption) ?rest25; (case hy25 => (intro w hSw; (try dsimp only at hSw); go_simp) <;> with_reducible rfl); go_frame
    refine wpAnyH_take (i := 9) (v := undef) (by simp only [List.getElem?_toArray, List.getElem?_cons_succ, List.getElem?_cons_zero]; rfl) (by kernel_rfl) (by kernel_rfl) (by kernel_rfl) (by exact fun _ _ _ h => h) (Or.inr ⟨by kernel_rfl, rfl⟩) (by assumption) ?_; go_frame; refine wpAnyH_take (i := 10) (v := undef) (by simp only [List.getElem?_toArray, List.getElem?_cons_succ, List.getElem?_cons_zero]; rfl) (by kernel_rfl) (by kernel_rfl) (by kernel_rfl) (by exact fun _ _ _ h => h) (Or.inr ⟨by kernel_rfl, rfl⟩) (by assumption) ?_; go_frame; refine wpAnyH_take (i := 11) (v := undef) (by simp only [List.getElem?_toArray, List.getElem?_cons_succ, List.getElem?_cons_zero]; rfl) (by kernel_rfl) (by kernel_rfl) (by kernel_rfl) (by exact fun _ _ _ h => h) (Or.inr ⟨by kernel_rfl, rfl⟩) (by assumption) ?_; go_frame
    refine wpAnyH_take (i := 12) (v := ?v26) (by simp only [List.getElem?_toArray, List.getElem?_cons_succ, List.getElem?_cons_zero]; rfl) (by kernel_rfl) (by kernel_rfl) (by kernel_rfl) (by exact fun _ _ _ h => h) (Or.inl ⟨by kernel_rfl, ?hy26⟩) (by assumption) ?rest26; (case hy26 => (intro w hSw; (try dsimp only at hSw); go_simp) <;> with_reducible rfl); go_frame; refine wpAnyH_take (i := 13) (v := ?v27) (by simp only [List.getElem?_toArray, List.getElem?_cons_succ, List.getElem?_cons_zero]; rfl) (by kernel_rfl) (by kernel_rfl) (by kernel_rfl) (by exact fun _ _ _ h => h) (Or.inl ⟨by kernel_rfl, ?hy27⟩) (by assumption) ?rest27; (case hy27 => (intro w hSw; (try dsimp only at hSw); go_simp) <;> with_reducible rfl); go_frame
    refine wpAnyH_take (i := 14) (v := undef) (by simp only [List.getElem?_toArray, List.getElem?_cons_succ, List.getElem?_cons_zero]; rfl) (by kernel_rfl) (by kernel_rfl) (by kernel_rfl) (by exact fun _ _ _ h => h) (Or.inr ⟨by kernel_rfl, rfl⟩) (by assumption) ?_; go_frame; refine wpAnyH_take (i := 15) (v := undef) (by simp only [List.getElem?_toArray, List.getElem?_cons_succ, List.getElem?_cons_zero]; rfl) (by kernel_rfl) (by kernel_rfl) (by kernel_rfl) (by exact fun _ _ _ h => h) (Or.inr ⟨by kernel_rfl, rfl⟩) (by assumption) ?_; go_frame; refine wpAnyH_take (i := 16) (v := undef) (by simp only [List.getElem?_toArray, List.getElem?_cons_succ, List.getElem?_cons_zero]; rfl) (by kernel_rfl) (by kernel_rfl) (by kernel_rfl) (by exact fun _ _ _ h => h) (Or.inr ⟨by kernel_rfl, rfl⟩) (by assumption) ?_; go_frame
    refine wpAnyH_take (i := 17) (v := ?v28) (by simp only [List.getElem?_toArray, List.getElem?_cons_succ, List.getElem?_cons_zero]; rfl) (by kernel_rfl) (by kernel_rfl) (by kernel_rfl) (by exact fun _ _ _ h => h) (Or.inl ⟨by kernel_rfl, ?hy28⟩) (by assumption) ?rest28; (case hy28 => (intro w hSw; (try dsimp only at hSw); go_simp) <;> with_reducible rfl); go_frame; refine wpAnyH_take (i := 18) (v := ?v29) (by simp only [List.getElem?_toArray, List.getElem?_cons_succ, List.getElem?_cons_zero]; rfl) (by kernel_rfl) (by kernel_rfl) (by kernel_rfl) (by exact fun _ _ _ h => h) (Or.inl ⟨by kernel_rfl, ?hy29⟩) (by assumption) ?rest29; (case hy29 => (intro w hSw; (try dsimp only at hSw); go_simp) <;> with_reducible rfl); go_frame
    refine wpAnyH_take (i := 19) (v := undef) (by simp only [List.getElem?_toArray, List.getElem?_cons_succ, List.getElem?_cons_zero]; rfl) (by kernel_rfl) (by kernel_rfl) (by kernel_rfl) (by exact fun _ _ _ h => h) (Or.inr ⟨by kernel_rfl, rfl⟩) (by assumption) ?_; go_frame; refine wpAnyH_take (i := 20) (v := undef) (by simp only [List.getElem?_toArray, List.getElem?_cons_succ, List.getElem?_cons_zero]; rfl) (by kernel_rfl) (by kernel_rfl) (by kernel_rfl) (by exact fun _ _ _ h => h) (Or.inr ⟨by kernel_rfl, rfl⟩) (by assumption) ?_; go_frame; refine wpAnyH_take (i := 21) (v := undef) (by simp only [List.getElem?_toArray, List.getElem?_cons_succ, List.getElem?_cons_zero]; rfl) (by kernel_rfl) (by kernel_rfl) (by kernel_rfl) (by exact fun _ _ _ h => h) (Or.inr ⟨by kernel_rfl, rfl⟩) (by assumption) ?_; go_frame
    refine wpAnyH_take (i := 22) (v := ?v30) (by simp only [List.getElem?_toArray, List.getElem?_cons_succ, List.getElem?_cons_zero]; rfl) (by kernel_rfl) (by kernel_rfl) (by kernel_rfl) (by exact fun _ _ _ h => h) (Or.inl ⟨by kernel_rfl, ?hy30⟩) (by assumption) ?rest30; (case hy30 => (intro w hSw; (try dsimp only at hSw); go_simp) <;> with_reducible rfl); go_frame; refine wpAnyH_take (i := 23) (v := ?v31) (by simp only [List.getElem?_toArray, List.getElem?_cons_succ, List.getElem?_cons_zero]; rfl) (by kernel_rfl) (by kernel_rfl) (by kernel_rfl) (by exact fun _ _ _ h => h) (Or.inl ⟨by kernel_rfl, ?hy31⟩) (by assumption) ?rest31; (case hy31 => (intro w hSw; (try dsimp only at hSw); go_simp) <;> with_reducible rfl); go_frame
    refine wpAnyH_take (i := 24) (v := undef) (by simp only [List.getElem?_toArray, List.getElem?_cons_succ, List.getElem?_cons_zero]; rfl) (by kernel_rfl) (by kernel_rfl) (by kernel_rfl) (by exact fun _ _ _ h => h) (Or.inr ⟨by kernel_rfl, rfl⟩) (by assumption) ?_; go_frame; refine wpAnyH_take (i := 25) (v := undef) (by simp only [List.getElem?_toArray, List.getElem?_cons_succ, List.getElem?_cons_zero]; rfl) (by kernel_rfl) (by kernel_rfl) (by kernel_rfl) (by exact fun _ _ _ h => h) (Or.inr ⟨by kernel_rfl, rfl⟩) (by assumption) ?_; go_frame; refine wpAnyH_take (i := 26) (v := undef) (by simp only [List.getElem?_toArray, List.getElem?_cons_succ, List.getElem?_cons_zero]; rfl) (by kernel_rfl) (by kernel_rfl) (by kernel_rfl) (by exact fun _ _ _ h => h) (Or.inr ⟨by kernel_rfl, rfl⟩) (by assumption) ?_; go_frame
    refine wpAnyH_take (i := 27) (v := ?v32) (by simp only [List.getElem?_toArray, List.getElem?_cons_succ, List.getElem?_cons_zero]; rfl) (by kernel_rfl) (by kernel_rfl) (by kernel_rfl) (by exact fun _ _ _ h => h) (Or.inl ⟨by kernel_rfl, ?hy32⟩) (by assumption) ?rest32; (case hy32 => (intro w hSw; (try dsimp only at hSw); go_simp) <;> with_reducible rfl); go_frame; refine wpAnyH_take (i := 28) (v := ?v33) (by simp only [List.getElem?_toArray, List.getElem?_cons_succ, List.getElem?_cons_zero]; rfl) (by kernel_rfl) (by kernel_rfl) (by kernel_rfl) (by exact fun _ _ _ h => h) (Or.inl ⟨by kernel_rfl, ?hy33⟩) (by assumption) ?rest33; (case hy33 => (intro w hSw; (try dsimp only at hSw); go_simp) <;> with_reducible rfl); go_frame
    refine wpAnyH_take (i := 29) (v := undef) (by simp only [List.getElem?_toArray, List.getElem?_cons_succ, List.getElem?_cons_zero]; rfl) (by kernel_rfl) (by kernel_rfl) (by kernel_rfl) (by exact fun _ _ _ h => h) (Or.inr ⟨by kernel_rfl, rfl⟩) (by assumption) ?_; go_frame; refine wpAnyH_take (i := 30) (v := undef) (by simp only [List.getElem?_toArray, List.getElem?_cons_succ, List.getElem?_cons_zero]; rfl) (by kernel_rfl) (by kernel_rfl) (by kernel_rfl) (by exact fun _ _ _ h => h) (Or.inr ⟨by kernel_rfl, rfl⟩) (by assumption) ?_; go_frame; refine wpAnyH_take (i := 31) (v := undef) (by simp only [List.getElem?_toArray, List.getElem?_cons_succ, List.getElem?_cons_zero]; rfl) (by kernel_rfl) (by kernel_rfl) (by kernel_rfl) (by exact fun _ _ _ h => h) (Or.inr ⟨by kernel_rfl, rfl⟩) (by assumption) ?_; go_frame; refine wpAnyH_take (i := 32) (v := undef) (by simp only [List.getElem?_toArray, List.getElem?_cons_succ, List.getElem?_cons_zero]; rfl) (by kernel_rfl) (by kernel_rfl) (by kernel_rfl) (by exact fun _ _ _ h => h) (Or.inr ⟨by kernel_rfl, rfl⟩) (by assumption) ?_; go_frame; refine wpAnyH_take (i := 33) (v := undef) (by simp only [List.getElem?_toArray, List.getElem?_cons_succ, List.getElem?_cons_zero]; rfl) (by kernel_rfl) (by kernel_rfl) (by kernel_rfl) (by exact fun _ _ _ h => h) (Or.inr ⟨by kernel_rfl, rfl⟩) (by assumption) ?_; go_frame; refine wpAnyH_take (i := 34) (v := undef) (by simp only [List.getElem?_toArray, List.getElem?_cons_succ, List.getElem?_cons_zero]; rfl) (by kernel_rfl) (by kernel_rfl) (by kernel_rfl) (by exact fun _ _ _ h => h) (Or.inr ⟨by kernel_rfl, rfl⟩) (by assumption) ?_; go_frame
    refine wpAnyH_take (i := 35) (v := ?v34) (by simp only [List.getElem?_toArray, List.getElem?_cons_succ, List.getElem?_cons_zero]; rfl) (by kernel_rfl) (by kernel_rfl) (by kernel_rfl) (by exact fun _ _ _ h => h) (Or.inl ⟨by kernel_rfl, ?hy34⟩) (by assumption) ?rest34; (case hy34 => (intro w hSw; (try dsimp only at hSw); go_simp) <;> with_reducible rfl); go_frame; refine wpAnyH_take (i := 36) (v := ?v35) (by simp only [List.getElem?_toArray, List.getElem?_cons_succ, List.getElem?_cons_zero]; rfl) (by kernel_rfl) (by kernel_rfl) (by kernel_rfl) (by exact fun _ _ _ h => h) (Or.inl ⟨by kernel_rfl, ?hy35⟩) (by assumption) ?rest35; (case hy35 => (intro w hSw; (try dsimp only at hSw); go_simp) <;> with_reducible rfl); go_frame
    refine wpAnyH_done (by kernel_rfl) ?_ _
    go_wp2
    go_ret
    exact ⟨congrArg (fun b => Ending.returned (.bool b)) (hmay.out.trans (leaf_no 1 (by decide) e1.out)).symm, hb0.out.trans (hB.out.mono hb0.out.size)⟩
set_option maxRecDepth 100000 in
set_option maxHeartbeats 4000000 in
theorem mayBe_0c (x : Nd) (s : Value) (w : World) (hs : Mat.IsMs w s x.sel) (hk : x.kind = 0) (h0 : leafC x 0 = true) (h1 : leafC x 1 = true) (h2 : leafC x 2 = false) : Calls Tryz.prog 35 #[ndAgg x s] w fun e w' => e = .returned (.bool (mayBeN x)) ∧ Below w.heap.size w w' := by
  obtain ⟨sa, sc, rfl⟩ := hs.slice
  have g1 := bne_u8 x.agg
  have g4 := bne_u8 x.cmp
  have hmay : Hid (mayBeN x = leafB x) := by show _ = _; unfold mayBeN; rw [if_pos hk]
  replace hms := hid hs
  have q0 : (x.left == 0) = true := h0
  have q1 : (x.right == 0) = true := h1
  have q2 : decide ((x.agg.toNat : Int) ≤ 5) = false := (leq_u8 _ 5).trans h2
  replace h2 := hid h2
  have e2 := h2
  clear hs
  unfold ndAgg
  obtain ⟨n, hn⟩ : ∃ n, x.sel.length = n := ⟨_, rfl⟩
  rw [hn]
  rw [hn] at hms
  replace hn := hid hn
  rw [hk]
  go_enter Tryz.func35, Tryz.ntmps35
  go_upto_region 1 with fail
  go_cut [0, 3] from 4 to 27 (fun _ s3 wx => s3 = .bool (compsN x) ∧ wx = w.alloc (.cells #[.int .u8 0, .int .u8 (x.agg.toNat : Int), .slice sa n sc, .int .i64 x.win, .int .u8 (x.cmp.toNat : Int), .int .i64 x.val, .int .i64 x.left, .int .i64 x.right] 31))
  case first =>
    cases e1 : (x.agg != 0)
    · cases n with
      | succ n =>
        have n2 := hid (comps_2 (sel_pos hn.out))
        rw [e1] at g1
        clear e1
        go_wp2
        go_meet
        exact ⟨congrArg Value.bool n2.out.symm, rfl⟩
      | zero =>
        have e2 := sel_nil hn.out
        cases e3 : (x.win != 0)
        · have hw0 := hid (show x.win = 0 by simpa using e3)
          cases e4 : (x.cmp != 0)
          · have n5 := hid (comps_5 e1 e2 e3 e4)
            have hc0 := hid (show (x.cmp.toNat : Int) = 0 by simp at e4; rw [e4]; rfl)
            rw [e1] at g1
            rw [e4] at g4
            clear e1 e2 e4
            go_wp2
            go_meet
            exact ⟨congrArg Value.bool n5.out.symm, by rw [hw0.out, hc0.out]⟩
          · have n4 := hid (comps_4 e4)
            rw [e1] at g1
            rw [e4] at g4
            clear e1 e2 e4
            go_wp2
            go_meet
            exact ⟨congrArg Value.bool n4.out.symm, by rw [hw0.out]⟩
        · have n3 := hid (comps_3 e3)
          rw [e1] at g1
          clear e1 e2
          go_wp2
          go_meet
          exact ⟨congrArg Value.bool n3.out.symm, rfl⟩
    · have n1 := hid (comps_1 e1)
      rw [e1] at g1
      clear e1
      go_wp2
      go_meet
      exact ⟨congrArg Value.bool n1.out.symm, rfl⟩
  case rest =>
    obtain ⟨rfl, rfl⟩ := hcut
    clear g1 g4
    generalize compsN x = cb at *
    have hb0 := hid (alloc_below w (.cells #[.int .u8 0, .int .u8 (x.agg.toNat : Int), .slice sa n sc, .int .i64 x.win, .int .u8 (x.cmp.toNat : Int), .int .i64 x.val, .int .i64 x.left, .int .i64 x.right] 31))
    have hbx := new_block w (.cells #[.int .u8 0, .int .u8 (x.agg.toNat : Int), .slice sa n sc, .int .i64 x.win, .int .u8 (x.cmp.toNat : Int), .int .i64 x.val, .int .i64 x.left, .int .i64 x.right] 31)
    obtain ⟨V, hV⟩ : ∃ V, w.alloc (.cells #[.int .u8 0, .int .u8 (x.agg.toNat : Int), .slice sa n sc, .int .i64 x.win, .int .u8 (x.cmp.toNat : Int), .int .i64 x.val, .int .i64 x.left, .int .i64 x.right] 31) = V := ⟨_, rfl⟩
    rw [hV] at hb0 hbx ⊢
    have hcells : Hid (∀ W', Below V.heap.size V W' → (fun w' : World => w'.cell? ⟨w.heap.size, 6, none⟩ = some (.int .i64 x.left) ∧ w'.cell? ⟨w.heap.size, 7, none⟩ = some (.int .i64 x.right) ∧ w'.cell? ⟨w.heap.size, 1, none⟩ = some (.int .u8 (x.agg.toNat : Int)) ∧ w'.cell? ⟨w.heap.size, 4, none⟩ = some (.int .u8 (x.cmp.toNat : Int)) ∧ w'.cell? ⟨w.heap.size, 2, none⟩ = some (.slice sa n sc) ∧ w'.cell? ⟨w.heap.size, 3, none⟩ = some (.int .i64 x.win) ∧ w'.cell? ⟨w.heap.size, 5, none⟩ = some (.int .i64 x.val)) W') := fun W' hb => by
      have hx := (hb.block _ (lt_of_block hbx)).trans hbx
      exact ⟨by rw [cell_of hx]; rfl, by rw [cell_of hx]; rfl, by rw [cell_of hx]; rfl, by rw [cell_of hx]; rfl, by rw [cell_of hx]; rfl, by rw [cell_of hx]; rfl, by rw [cell_of hx]; rfl⟩
    have x0 := cell_of hbx 0
    simp at x0
    have hsV := hid (fun W' (hb : Below V.heap.size V W') => (hms.out.below hb0.out).below hb)
    clear hbx hV hms
    go_wp2_with fail
    refine wp_region_held_drew (S := fun w' : World => w'.cell? ⟨w.heap.size, 6, none⟩ = some (.int .i64 x.left) ∧ w'.cell? ⟨w.heap.size, 7, none⟩ = some (.int .i64 x.right) ∧ w'.cell? ⟨w.heap.size, 1, none⟩ = some (.int .u8 (x.agg.toNat : Int)) ∧ w'.cell? ⟨w.heap.size, 4, none⟩ = some (.int .u8 (x.cmp.toNat : Int)) ∧ w'.cell? ⟨w.heap.size, 2, none⟩ = some (.slice sa n sc) ∧ w'.cell? ⟨w.heap.size, 3, none⟩ = some (.int .i64 x.win) ∧ w'.cell? ⟨w.heap.size, 5, none⟩ = some (.int .i64 x.val)) (by kernel_rfl) (hcells.out _ (below_drew (Below.refl _ _))) (fun hHeld => ?_)
    have hB := hid (below_drew (Below.refl V.heap.size V))
    refine wpAnyH_take (i := 0) (v := ?v36) (by simp only [List.getElem?_toArray, List.getElem?_cons_zero]; rfl) (by kernel_rfl) (by kernel_rfl) (by kernel_rfl) (by exact fun _ _ _ h => h) (Or.inl ⟨by kernel_rfl, ?hy36⟩) (by assumption) ?rest36; (case hy36 => (intro w hSw; (try dsimp only at hSw); go_simp) <;> with_reducible rfl); go_frame; refine wpAnyH_take (i := 1) (v := ?v37) (by simp only [List.getElem?_toArray, List.getElem?_cons_succ, List.getElem?_cons_zero]; rfl) (by kernel_rfl) (by kernel_rfl) (by kernel_rfl) (by exact fun _ _ _ h => h) (Or.inl ⟨by kernel_rfl, ?hy37⟩) (by assumption) ?rest37; (case hy37 => (intro w hSw; (try dsimp only at hSw); go_simp) <;> with_reducible rfl); go_frame; refine wpAnyH_take (i := 2) (v := ?v38) (by simp only [List.getElem?_toArray, List.getElem?_cons_succ, List.getElem?_cons_zero]; rfl) (by kernel_rfl) (by kernel_rfl) (by kernel_rfl) (by exact fun _ _ _ h => h) (Or.inl ⟨by kernel_rfl, ?hy38⟩) (by assumption) ?rest38; (case hy38 => (intro w hSw; (try dsimp only at hSw); go_simp) <;> with_reducible rfl); go_frame; refine wpAnyH_take (i := 3) (v := ?v39) (by simp only [List.getElem?_toArray, List.getElem?_cons_succ, List.getElem?_cons_zero]; rfl) (by kernel_rfl) (by kernel_rfl) (by kernel_rfl) (by exact fun _ _ _ h => h) (Or.inl ⟨by kernel_rfl, ?hy39⟩) (by assumption) ?rest39; (case hy39 => (intro w hSw; (try dsimp only at hSw); go_simp) <;> with_reducible rfl); go_frame; refine wpAnyH_take (i := 4) (v := ?v40) (by simp only [List.getElem?_toArray, List.getElem?_cons_succ, List.getElem?_cons_zero]; rfl) (by kernel_rfl) (by kernel_rfl) (by kernel_rfl) (by exact fun _ _ _ h => h) (Or.inl ⟨by kernel_rfl, ?hy40⟩) (by assumption) ?rest40; (case hy40 => (intro w hSw; (try dsimp only at hSw); go_simp) <;> with_reducible rfl); go_frame; refine wpAnyH_take (i := 5) (v := ?v41) (by simp only [List.getElem?_toArray, List.getElem?_cons_succ, List.getElem?_cons_zero]; rfl) (by kernel_rfl) (by kernel_rfl) (by kernel_rfl) (by exact fun _ _ _ h => h) (Or.inl ⟨by kernel_rfl, ?hy41⟩) (by assumption) ?rest41; (case hy41 => (intro w hSw; (try dsimp only at hSw); go_simp) <;> with_reducible rfl); go_frame; refine wpAnyH_take (i := 6) (v := ?v42) (by simp only [List.getElem?_toArray, List.getElem?_cons_succ, List.getElem?_cons_zero]; rfl) (by kernel_rfl) (by kernel_rfl) (by kernel_rfl) (by exact fun _ _ _ h => h) (Or.inl ⟨by kernel_rfl, ?hy42⟩) (by assumption) ?rest42; (case hy42 => (intro w hSw; (try dsimp only at hSw); go_simp) <;> with_reducible rfl); go_frame; refine wpAnyH_take (i := 7) (v := ?v43) (by simp only [List.getElem?_toArray, List.getElem?_cons_succ, List.getElem?_cons_zero]; rfl) (by kernel_rfl) (by kernel_rfl) (by kernel_rfl) (by exact fun _ _ _ h => h) (Or.inl ⟨by kernel_rfl, ?hy43⟩) (by assumption) ?rest43; (case hy43 => (intro w hSw; (try dsimp only at hSw); go_simp) <;> with_reducible rfl); go_frame; refine wpAnyH_take (i := 8) (v := ?v44) (by simp only [List.getElem?_toArray, List.getElem?_cons_succ, List.getElem?_cons_zero]; rfl) (by kernel_rfl) (by kernel_rfl) (by kernel_rfl) (by exact fun _ _ _ h => h) (Or.inl ⟨by kernel_rfl, ?hy44⟩) (by assumption) ?rest44; (case hy44 => (intro w hSw; (try dsimp only at hSw); go_simp) <;> with_reducible rfl); go_frame; refine wpAnyH_take (i := 9) (v := ?v45) (by simp only [List.getElem?_toArray, List.getElem?_cons_succ, List.getElem?_cons_zero]; rfl) (by kernel_rfl) (by kernel_rfl) (by kernel_rfl) (by exact fun _ _ _ h => h) (Or.inl ⟨by kernel_rfl, ?hy45⟩) (by assumption) ?rest45; (case hy45 => (intro w hSw; (try dsimp only at hSw); go_simp) <;> with_reducible rfl); go_frame; refine wpAnyH_take (i := 10) (v := ?v46) (by simp only [List.getElem?_toArray, List.getElem?_cons_succ, List.getElem?_cons_zero]; rfl) (by kernel_rfl) (by kernel_rfl) (by kernel_rfl) (by exact fun _ _ _ h => h) (Or.inl ⟨by kernel_rfl, ?hy46⟩) (by assumption) ?rest46; (case hy46 => (intro w hSw; (try dsimp only at hSw); go_simp) <;> with_reducible rfl); go_frame; refine wpAnyH_take (i := 11) (v := ?v47) (by simp only [List.getElem?_toArray, List.getElem?_cons_succ, List.getElem?_cons_zero]; rfl) (by kernel_rfl) (by kernel_rfl) (by kernel_rfl) (by exact fun _ _ _ h => h) (Or.inl ⟨by kernel_rfl, ?hy47⟩) (by assumption) ?rest47; (case hy47 => (intro w hSw; (try dsimp only at hSw); go_simp) <;> with_reducible rfl); go_frame; refine wpAnyH_take (i := 12) (v := ?v48) (by simp only [List.getElem?_toArray, List.getElem?_cons_succ, List.getElem?_cons_zero]; rfl) (by kernel_rfl) (by kernel_rfl) (by kernel_rfl) (by exact fun _ _ _ h => h) (Or.inl ⟨by kernel_rfl, ?hy48⟩) (by assumption) ?rest48; (case hy48 => (intro w hSw; (try dsimp only at hSw); go_simp) <;> with_reducible rfl); go_frame; refine wpAnyH_take (i := 13) (v := ?v49) (by simp only [List.getElem?_toArray, List.getElem?_cons_succ, List.getElem?_cons_zero]; rfl) (by kernel_rfl) (by kernel_rfl) (by kernel_rfl) (by exact fun _ _ _ h => h) (Or.inl ⟨by kernel_rfl, ?hy49⟩) (by assumption) ?rest49; (case hy49 => (intro w hSw; (try dsimp only at hSw); go_simp) <;> with_reducible rfl); go_frame
    refine wpAnyH_take (i := 14) (v := undef) (by simp only [List.getElem?_toArray, List.getElem?_cons_succ, List.getElem?_cons_zero]; rfl) (by kernel_rfl) (by kernel_rfl) (by kernel_rfl) (by exact fun _ _ _ h => h) (Or.inr ⟨by kernel_rfl, rfl⟩) (by assumption) ?_; go_frame; refine wpAnyH_take (i := 15) (v := undef) (by simp only [List.getElem?_toArray, List.getElem?_cons_succ, List.getElem?_cons_zero]; rfl) (by kernel_rfl) (by kernel_rfl) (by kernel_rfl) (by exact fun _ _ _ h => h) (Or.inr ⟨by kernel_rfl, rfl⟩) (by assumption) ?_; go_frame; refine wpAnyH_take (i := 16) (v := undef) (by simp only [List.getElem?_toArray, List.getElem?_cons_succ, List.getElem?_cons_zero]; rfl) (by kernel_rfl) (by kernel_rfl) (by kernel_rfl) (by exact fun _ _ _ h => h) (Or.inr ⟨by kernel_rfl, rfl⟩) (by assumption) ?_; go_frame
    refine wpAnyH_take (i := 17) (v := ?v50) (by simp only [List.getElem?_toArray, List.getElem?_cons_succ, List.getElem?_cons_zero]; rfl) (by kernel_rfl) (by kernel_rfl) (by kernel_rfl) (by exact fun _ _ _ h => h) (Or.inl ⟨by kernel_rfl, ?hy50⟩) (by assumption) ?rest50; (case hy50 => (intro w hSw; (try dsimp only at hSw); go_simp) <;> with_reducible rfl); go_frame; refine wpAnyH_take (i := 18) (v := ?v51) (by simp only [List.getElem?_toArray, List.getElem?_cons_succ, List.getElem?_cons_zero]; rfl) (by kernel_rfl) (by kernel_rfl) (by kernel_rfl) (by exact fun _ _ _ h => h) (Or.inl ⟨by kernel_rfl, ?hy51⟩) (by assumption) ?rest51; (case hy51 => (intro w hSw; (try dsimp only at hSw); go_simp) <;> with_reducible rfl); go_frame
    refine wpAnyH_take (i := 19) (v := undef) (by simp only [List.getElem?_toArray, List.getElem?_cons_succ, List.getElem?_cons_zero]; rfl) (by kernel_rfl) (by kernel_rfl) (by kernel_rfl) (by exact fun _ _ _ h => h) (Or.inr ⟨by kernel_rfl, rfl⟩) (by assumption) ?_; go_frame; refine wpAnyH_take (i := 20) (v := undef) (by simp only [List.getElem?_toArray, List.getElem?_cons_succ, List.getElem?_cons_zero]; rfl) (by kernel_rfl) (by kernel_rfl) (by kernel_rfl) (by exact fun _ _ _ h => h) (Or.inr ⟨by kernel_rfl, rfl⟩) (by assumption) ?_; go_frame; refine wpAnyH_take (i := 21) (v := undef) (by simp only [List.getElem?_toArray, List.getElem?_cons_succ, List.getElem?_cons_zero]; rfl) (by kernel_rfl) (by kernel_rfl) (by kernel_rfl) (by exact fun _ _ _ h => h) (Or.inr ⟨by kernel_rfl, rfl⟩) (by assumption) ?_; go_frame
    refine wpAnyH_take (i := 22) (v := ?v52) (by simp only [List.getElem?_toArray, List.getElem?_cons_succ, List.getElem?_cons_zero]; rfl) (by kernel_rfl) (by kernel_rfl) (by kernel_rfl) (by exact fun _ _ _ h => h) (Or.inl ⟨by kernel_rfl, ?hy52⟩) (by assumption) ?rest52; (case hy52 => (intro w hSw; (try dsimp only at hSw); go_simp) <;> with_reducible rfl); go_frame; refine wpAnyH_take (i := 23) (v := ?v53) (by simp only [List.getElem?_toArray, List.getElem?_cons_succ, List.getElem?_cons_zero]; rfl) (by kernel_rfl) (by kernel_rfl) (by kernel_rfl) (by exact fun _ _ _ h => h) (Or.inl ⟨by kernel_rfl, ?hy53⟩) (by assumption) ?rest53; (case hy53 => (intro w hSw; (try dsimp only at hSw); go_simp) <;> with_reducible rfl); go_frame
    refine wpAnyH_take (i := 24) (v := undef) (by simp only [List.getElem?_toArray, List.getElem?_cons_succ, List.getElem?_cons_zero]; rfl) (by kernel_rfl) (by kernel_rfl) (by kernel_rfl) (by exact fun _ _ _ h => h) (Or.inr ⟨by kernel_rfl, rfl⟩) (by assumption) ?_; go_frame; refine wpAnyH_take (i := 25) (v := undef) (by simp only [List.getElem?_toArray, List.getElem?_cons_succ, List.getElem?_cons_zero]; rfl) (by kernel_rfl) (by kernel_rfl) (by kernel_rfl) (by exact fun _ _ _ h => h) (Or.inr ⟨by kernel_rfl, rfl⟩) (by assumption) ?_; go_frame; refine wpAnyH_take (i := 26) (v := undef) (by simp only [List.getElem?_toArray, List.getElem?_cons_succ, List.getElem?_cons_zero]; rfl) (by kernel_rfl) (by kernel_rfl) (by kernel_rfl) (by exact fun _ _ _ h => h) (Or.inr ⟨by kernel_rfl, rfl⟩) (by assumption) ?_; go_frame
    refine wpAnyH_take (i := 27) (v := ?v54) (by simp only [List.getElem?_toArray, List.getElem?_cons_succ, List.getElem?_cons_zero]; rfl) (by kernel_rfl) (by kernel_rfl) (by kernel_rfl) (by exact fun _ _ _ h => h) (Or.inl ⟨by kernel_rfl, ?hy54⟩) (by assumption) ?rest54; (case hy54 => (intro w hSw; (try dsimp only at hSw); go_simp) <;> with_reducible rfl); go_frame; refine wpAnyH_take (i := 28) (v := ?v55) (by simp only [List.getElem?_toArray, List.getElem?_cons_succ, List.getElem?_cons_zero]; rfl) (by kernel_rfl) (by kernel_rfl) (by kernel_rfl) (by exact fun _ _ _ h => h) (Or.inl ⟨by kernel_rfl, ?hy55⟩) (by assumption) ?rest55; (case hy55 => (intro w hSw; (try dsimp only at hSw); go_simp) <;> with_reducible rfl); go_frame
    refine wpAnyH_take (i := 29) (v := undef) (by simp only [List.getElem?_toArray, List.getElem?_cons_succ, List.getElem?_cons_zero]; rfl) (by kernel_rfl) (by kernel_rfl) (by kernel_rfl) (by exact fun _ _ _ h => h) (Or.inr ⟨by kernel_rfl, rfl⟩) (by assumption) ?_; go_frame; refine wpAnyH_take (i := 30) (v := undef) (by simp only [List.getElem?_toArray, List.getElem?_cons_succ, List.getElem?_cons_zero]; rfl) (by kernel_rfl) (by kernel_rfl) (by kernel_rfl) (by exact fun _ _ _ h => h) (Or.inr ⟨by kernel_rfl, rfl⟩) (by assumption) ?_; go_frame; refine wpAnyH_take (i := 31) (v := undef) (by simp only [List.getElem?_toArray, List.getElem?_cons_succ, List.getElem?_cons_zero]; rfl) (by kernel_rfl) (by kernel_rfl) (by kernel_rfl) (by exact fun _ _ _ h => h) (Or.inr ⟨by kernel_rfl, rfl⟩) (by assumption) ?_; go_frame; refine wpAnyH_take (i := 32) (v := undef) (by simp only [List.getElem?_toArray, List.getElem?_cons_succ, List.getElem?_cons_zero]; rfl) (by kernel_rfl) (by kernel_rfl) (by kernel_rfl) (by exact fun _ _ _ h => h) (Or.inr ⟨by kernel_rfl, rfl⟩) (by assumption) ?_; go_frame; refine wpAnyH_take (i := 33) (v := undef) (by simp only [List.getElem?_toArray, List.getElem?_cons_succ, List.getElem?_cons_zero]; rfl) (by kernel_rfl) (by kernel_rfl) (by kernel_rfl) (by exact fun _ _ _ h => h) (Or.inr ⟨by kernel_rfl, rfl⟩) (by assumption) ?_; go_frame; refine wpAnyH_take (i := 34) (v := undef) (by simp only [List.getElem?_toArray, List.getElem?_cons_succ, List.getElem?_cons_zero]; rfl) (by kernel_rfl) (by kernel_rfl) (by kernel_rfl) (by exact fun _ _ _ h => h) (Or.inr ⟨by kernel_rfl, rfl⟩) (by assumption) ?_; go_frame
    refine wpAnyH_take (i := 35) (v := ?v56) (by simp only [List.getElem?_toArray, List.getElem?_cons_succ, List.getElem?_cons_zero]; rfl) (by kernel_rfl) (by kernel_rfl) (by kernel_rfl) (by exact fun _ _ _ h => h) (Or.inl ⟨by kernel_rfl, ?hy56⟩) (by assumption) ?rest56; (case hy56 => (intro w hSw; (try dsimp only at hSw); go_simp) <;> with_reducible rfl); go_frame; refine wpAnyH_take (i := 36) (v := ?v57) (by simp only [List.getElem?_toArray, List.getElem?_cons_succ, List.getElem?_cons_zero]; rfl) (by kernel_rfl) (by kernel_rfl) (by kernel_rfl) (by exact fun _ _ _ h => h) (Or.inl ⟨by kernel_rfl, ?hy57⟩) (by assumption) ?rest57; (case hy57 => (intro w hSw; (try dsimp only at hSw); go_simp) <;> with_reducible rfl); go_frame
    refine wpAnyH_done (by kernel_rfl) ?_ _
    go_wp2
    go_ret
    exact ⟨congrArg (fun b => Ending.returned (.bool b)) (hmay.out.trans (leaf_no 2 (by decide) e2.out)).symm, hb0.out.trans (hB.out.mono hb0.out.size)⟩
set_option maxRecDepth 100000 in
set_option maxHeartbeats 4000000 in
theorem mayBe_0d (x : Nd) (s : Value) (w : World) (hs : Mat.IsMs w s x.sel) (hk : x.kind = 0) (h0 : leafC x 0 = true) (h1 : leafC x 1 = true) (h2 : leafC x 2 = true) (h3 : leafC x 3 = false) : Calls Tryz.prog 35 #[ndAgg x s] w fun e w' => e = .returned (.bool (mayBeN x)) ∧ Below w.heap.size w w' := by
  obtain ⟨sa, sc, rfl⟩ := hs.slice
  have g1 := bne_u8 x.agg
  have g4 := bne_u8 x.cmp
  have hmay : Hid (mayBeN x = leafB x) := by show _ = _; unfold mayBeN; rw [if_pos hk]
  replace hms := hid hs
  have q0 : (x.left == 0) = true := h0
  have q1 : (x.right == 0) = true := h1
  have q2 : decide ((x.agg.toNat : Int) ≤ 5) = true := (leq_u8 _ 5).trans h2
  have q3 : decide ((x.cmp.toNat : Int) ≤ 5) = false := (leq_u8 _ 5).trans h3
  replace h3 := hid h3
  have e3 := h3
  clear hs
  unfold ndAgg
  obtain ⟨n, hn⟩ : ∃ n, x.sel.length = n := ⟨_, rfl⟩
  rw [hn]
  rw [hn] at hms
  replace hn := hid hn
  rw [hk]
  go_enter Tryz.func35, Tryz.ntmps35
  go_upto_region 1 with fail
  go_cut [0, 3] from 4 to 27 (fun _ s3 wx => s3 = .bool (compsN x) ∧ wx = w.alloc (.cells #[.int .u8 0, .int .u8 (x.agg.toNat : Int), .slice sa n sc, .int .i64 x.win, .int .u8 (x.cmp.toNat : Int), .int .i64 x.val, .int .i64 x.left, .int .i64 x.right] 31))
  case first =>
    cases e1 : (x.agg != 0)
    · cases n with
      | succ n =>
        have n2 := hid (comps_2 (sel_pos hn.out))
        rw [e1] at g1
        clear e1
        go_wp2
        go_meet
        exact ⟨congrArg Value.bool n2.out.symm, rfl⟩
      | zero =>
        have e2 := sel_nil hn.out
        cases e3 : (x.win != 0)
        · have hw0 := hid (show x.win = 0 by simpa using e3)
          cases e4 : (x.cmp != 0)
          · have n5 := hid (comps_5 e1 e2 e3 e4)
            have hc0 := hid (show (x.cmp.toNat : Int) = 0 by simp at e4; rw [e4]; rfl)
            rw [e1] at g1
            rw [e4] at g4
            clear e1 e2 e4
            go_wp2
            go_meet
            exact ⟨congrArg Value.bool n5.out.symm, by rw [hw0.out, hc0.out]⟩
          · have n4 := hid (comps_4 e4)
            rw [e1] at g1
            rw [e4] at g4
            clear e1 e2 e4
            go_wp2
            go_meet
            exact ⟨congrArg Value.bool n4.out.symm, by rw [hw0.out]⟩
        · have n3 := hid (comps_3 e3)
          rw [e1] at g1
          clear e1 e2
          go_wp2
          go_meet
          exact ⟨congrArg Value.bool n3.out.symm, rfl⟩
    · have n1 := hid (comps_1 e1)
      rw [e1] at g1
      clear e1
      go_wp2
      go_meet
      exact ⟨congrArg Value.bool n1.out.symm, rfl⟩
  case rest =>
    obtain ⟨rfl, rfl⟩ := hcut
    clear g1 g4
    generalize compsN x = cb at *
    have hb0 := hid (alloc_below w (.cells #[.int .u8 0, .int .u8 (x.agg.toNat : Int), .slice sa n sc, .int .i64 x.win, .int .u8 (x.cmp.toNat : Int), .int .i64 x.val, .int .i64 x.left, .int .i64 x.right] 31))
    have hbx := new_block w (.cells #[.int .u8 0, .int .u8 (x.agg.toNat : Int), .slice sa n sc, .int .i64 x.win, .int .u8 (x.cmp.toNat : Int), .int .i64 x.val, .int .i64 x.left, .int .i64 x.right] 31)
    obtain ⟨V, hV⟩ : ∃ V, w.alloc (.cells #[.int .u8 0, .int .u8 (x.agg.toNat : Int), .slice sa n sc, .int .i64 x.win, .int .u8 (x.cmp.toNat : Int), .int .i64 x.val, .int .i64 x.left, .int .i64 x.right] 31) = V := ⟨_, rfl⟩
    rw [hV] at hb0 hbx ⊢
    have hcells : Hid (∀ W', Below V.heap.size V W' → (fun w' : World => w'.cell? ⟨w.heap.size, 6, none⟩ = some (.int .i64 x.left) ∧ w'.cell? ⟨w.heap.size, 7, none⟩ = some (.int .i64 x.right) ∧ w'.cell? ⟨w.heap.size, 1, none⟩ = some (.int .u8 (x.agg.toNat : Int)) ∧ w'.cell? ⟨w.heap.size, 4, none⟩ = some (.int .u8 (x.cmp.toNat : Int)) ∧ w'.cell? ⟨w.heap.size, 2, none⟩ = some (.slice sa n sc) ∧ w'.cell? ⟨w.heap.size, 3, none⟩ = some (.int .i64 x.win) ∧ w'.cell? ⟨w.heap.size, 5, none⟩ = some (.int .i64 x.val)) W') := fun W' hb => by
      have hx := (hb.block _ (lt_of_block hbx)).trans hbx
      exact ⟨by rw [cell_of hx]; rfl, by rw [cell_of hx]; rfl, by rw [cell_of hx]; rfl, by rw [cell_of hx]; rfl, by rw [cell_of hx]; rfl, by rw [cell_of hx]; rfl, by rw [cell_of hx]; rfl⟩
    have x0 := cell_of hbx 0
    simp at x0
    have hsV := hid (fun W' (hb : Below V.heap.size V W') => (hms.out.below hb0.out).below hb)
    clear hbx hV hms
    go_wp2_with fail
    refine wp_region_held_drew (S := fun w' : World => w'.cell? ⟨w.heap.size, 6, none⟩ = some (.int .i64 x.left) ∧ w'.cell? ⟨w.heap.size, 7, none⟩ = some (.int .i64 x.right) ∧ w'.cell? ⟨w.heap.size, 1, none⟩ = some (.int .u8 (x.agg.toNat : Int)) ∧ w'.cell? ⟨w.heap.size, 4, none⟩ = some (.int .u8 (x.cmp.toNat : Int)) ∧ w'.cell? ⟨w.heap.size, 2, none⟩ = some (.slice sa n sc) ∧ w'.cell? ⟨w.heap.size, 3, none⟩ = some (.int .i64 x.win) ∧ w'.cell? ⟨w.heap.size, 5, none⟩ = some (.int .i64 x.val)) (by kernel_rfl) (hcells.out _ (below_drew (Below.refl _ _))) (fun hHeld => ?_)
    have hB := hid (below_drew (Below.refl V.heap.size V))
    refine wpAnyH_take (i := 0) (v := ?v58) (by simp only [List.getElem?_toArray, List.getElem?_cons_zero]; rfl) (by kernel_rfl) (by kernel_rfl) (by kernel_rfl) (by exact fun _ _ _ h => h) (Or.inl ⟨by kernel_rfl, ?hy58⟩) (by assumption) ?rest58; (case hy58 => (intro w hSw; (try dsimp only at hSw); go_simp) <;> with_reducible rfl); go_frame; refine wpAnyH_take (i := 1) (v := ?v59) (by simp only [List.getElem?_toArray, List.getElem?_cons_succ, List.getElem?_cons_zero]; rfl) (by kernel_rfl) (by kernel_rfl) (by kernel_rfl) (by exact fun _ _ _ h => h) (Or.inl ⟨by kernel_rfl, ?hy59⟩) (by assumption) ?rest59; (case hy59 => (intro w hSw; (try dsimp only at hSw); go_simp) <;> with_reducible rfl); go_frame; refine wpAnyH_take (i := 2) (v := ?v60) (by simp only [List.getElem?_toArray, List.getElem?_cons_succ, List.getElem?_cons_zero]; rfl) (by kernel_rfl) (by kernel_rfl) (by kernel_rfl) (by exact fun _ _ _ h => h) (Or.inl ⟨by kernel_rfl, ?hy60⟩) (by assumption) ?rest60; (case hy60 => (intro w hSw; (try dsimp only at hSw); go_simp) <;> with_reducible rfl); go_frame; refine wpAnyH_take (i := 3) (v := ?v61) (by simp only [List.getElem?_toArray, List.getElem?_cons_succ, List.getElem?_cons_zero]; rfl) (by kernel_rfl) (by kernel_rfl) (by kernel_rfl) (by exact fun _ _ _ h => h) (Or.inl ⟨by kernel_rfl, ?hy61⟩) (by assumption) ?rest61; (case hy61 => (intro w hSw; (try dsimp only at hSw); go_simp) <;> with_reducible rfl); go_frame; refine wpAnyH_take (i := 4) (v := ?v62) (by simp only [List.getElem?_toArray, List.getElem?_cons_succ, List.getElem?_cons_zero]; rfl) (by kernel_rfl) (by kernel_rfl) (by kernel_rfl) (by exact fun _ _ _ h => h) (Or.inl ⟨by kernel_rfl, ?hy62⟩) (by assumption) ?rest62; (case hy62 => (intro w hSw; (try dsimp only at hSw); go_simp) <;> with_reducible rfl); go_frame; refine wpAnyH_take (i := 5) (v := ?v63) (by simp only [List.getElem?_toArray, List.getElem?_cons_succ, List.getElem?_cons_zero]; rfl) (by kernel_rfl) (by kernel_rfl) (by kernel_rfl) (by exact fun _ _ _ h => h) (Or.inl ⟨by kernel_rfl, ?hy63⟩) (by assumption) ?rest63; (case hy63 => (intro w hSw; (try dsimp only at hSw); go_simp) <;> with_reducible rfl); go_frame; refine wpAnyH_take (i := 6) (v := ?v64) (by simp only [List.getElem?_toArray, List.getElem?_cons_succ, List.getElem?_cons_zero]; rfl) (by kernel_rfl) (by kernel_rfl) (by kernel_rfl) (by exact fun _ _ _ h => h) (Or.inl ⟨by kernel_rfl, ?hy64⟩) (by assumption) ?rest64; (case hy64 => (intro w hSw; (try dsimp only at hSw); go_simp) <;> with_reducible rfl); go_frame; refine wpAnyH_take (i := 7) (v := ?v65) (by simp only [List.getElem?_toArray, List.getElem?_cons_succ, List.getElem?_cons_zero]; rfl) (by kernel_rfl) (by kernel_rfl) (by kernel_rfl) (by exact fun _ _ _ h => h) (Or.inl ⟨by kernel_rfl, ?hy65⟩) (by assumption) ?rest65; (case hy65 => (intro w hSw; (try dsimp only at hSw); go_simp) <;> with_reducible rfl); go_frame; refine wpAnyH_take (i := 8) (v := ?v66) (by simp only [List.getElem?_toArray, List.getElem?_cons_succ, List.getElem?_cons_zero]; rfl) (by kernel_rfl) (by kernel_rfl) (by kernel_rfl) (by exact fun _ _ _ h => h) (Or.inl ⟨by kernel_rfl, ?hy66⟩) (by assumption) ?rest66; (case hy66 => (intro w hSw; (try dsimp only at hSw); go_simp) <;> with_reducible rfl); go_frame; refine wpAnyH_take (i := 9) (v := ?v67) (by simp only [List.getElem?_toArray, List.getElem?_cons_succ, List.getElem?_cons_zero]; rfl) (by kernel_rfl) (by kernel_rfl) (by kernel_rfl) (by exact fun _ _ _ h => h) (Or.inl ⟨by kernel_rfl, ?hy67⟩) (by assumption) ?rest67; (case hy67 => (intro w hSw; (try dsimp only at hSw); go_simp) <;> with_reducible rfl); go_frame; refine wpAnyH_take (i := 10) (v := ?v68) (by simp only [List.getElem?_toArray, List.getElem?_cons_succ, List.getElem?_cons_zero]; rfl) (by kernel_rfl) (by kernel_rfl) (by kernel_rfl) (by exact fun _ _ _ h => h) (Or.inl ⟨by kernel_rfl, ?hy68⟩) (by assumption) ?rest68; (case hy68 => (intro w hSw; (try dsimp only at hSw); go_simp) <;> with_reducible rfl); go_frame; refine wpAnyH_take (i := 11) (v := ?v69) (by simp only [List.getElem?_toArray, List.getElem?_cons_succ, List.getElem?_cons_zero]; rfl) (by kernel_rfl) (by kernel_rfl) (by kernel_rfl) (by exact fun _ _ _ h => h) (Or.inl ⟨by kernel_rfl, ?hy69⟩) (by assumption) ?rest69; (case hy69 => (intro w hSw; (try dsimp only at hSw); go_simp) <;> with_reducible rfl); go_frame; refine wpAnyH_take (i := 12) (v := ?v70) (by simp only [List.getElem?_toArray, List.getElem?_cons_succ, List.getElem?_cons_zero]; rfl) (by kernel_rfl) (by kernel_rfl) (by kernel_rfl) (by exact fun _ _ _ h => h) (Or.inl ⟨by kernel_rfl, ?hy70⟩) (by assumption) ?rest70; (case hy70 => (intro w hSw; (try dsimp only at hSw); go_simp) <;> with_reducible rfl); go_frame; refine wpAnyH_take (i := 13) (v := ?v71) (by simp only [List.getElem?_toArray, List.getElem?_cons_succ, List.getElem?_cons_zero]; rfl) (by kernel_rfl) (by kernel_rfl) (by kernel_rfl) (by exact fun _ _ _ h => h) (Or.inl ⟨by kernel_rfl, ?hy71⟩) (by assumption) ?rest71; (case hy71 => (intro w hSw; (try dsimp only at hSw); go_simp) <;> with_reducible rfl); go_frame; refine wpAnyH_take (i := 14) (v := ?v72) (by simp only [List.getElem?_toArray, List.getElem?_cons_succ, List.getElem?_cons_zero]; rfl) (by kernel_rfl) (by kernel_rfl) (by kernel_rfl) (by exact fun _ _ _ h => h) (Or.inl ⟨by kernel_rfl, ?hy72⟩) (by assumption) ?rest72; (case hy72 => (intro w hSw; (try dsimp only at hSw); go_simp) <;> with_reducible rfl); go_frame; refine wpAnyH_take (i := 15) (v := ?v73) (by simp only [List.getElem?_toArray, List.getElem?_cons_succ, List.getElem?_cons_zero]; rfl) (by kernel_rfl) (by kernel_rfl) (by kernel_rfl) (by exact fun _ _ _ h => h) (Or.inl ⟨by kernel_rfl, ?hy73⟩) (by assumption) ?rest73; (case hy73 => (intro w hSw; (try dsimp only at hSw); go_simp) <;> with_reducible rfl); go_frame; refine wpAnyH_take (i := 16) (v := ?v74) (by simp only [List.getElem?_toArray, List.getElem?_cons_succ, List.getElem?_cons_zero]; rfl) (by kernel_rfl) (by kernel_rfl) (by kernel_rfl) (by exact fun _ _ _ h => h) (Or.inl ⟨by kernel_rfl, ?hy74⟩) (by assumption) ?rest74; (case hy74 => (intro w hSw; (try dsimp only at hSw); go_simp) <;> with_reducible rfl); go_frame; refine wpAnyH_take (i := 17) (v := ?v75) (by simp only [List.getElem?_toArray, List.getElem?_cons_succ, List.getElem?_cons_zero]; rfl) (by kernel_rfl) (by kernel_rfl) (by kernel_rfl) (by exact fun _ _ _ h => h) (Or.inl ⟨by kernel_rfl, ?hy75⟩) (by assumption) ?rest75; (case hy75 => (intro w hSw; (try dsimp only at hSw); go_simp) <;> with_reducible rfl); go_frame; refine wpAnyH_take (i := 18) (v := ?v76) (by simp only [List.getElem?_toArray, List.getElem?_cons_succ, List.getElem?_cons_zero]; rfl) (by kernel_rfl) (by kernel_rfl) (by kernel_rfl) (by exact fun _ _ _ h => h) (Or.inl ⟨by kernel_rfl, ?hy76⟩) (by assumption) ?rest76; (case hy76 => (intro w hSw; (try dsimp only at hSw); go_simp) <;> with_reducible rfl); go_frame
    refine wpAnyH_take (i := 19) (v := undef) (by simp only [List.getElem?_toArray, List.getElem?_cons_succ, List.getElem?_cons_zero]; rfl) (by kernel_rfl) (by kernel_rfl) (by kernel_rfl) (by exact fun _ _ _ h => h) (Or.inr ⟨by kernel_rfl, rfl⟩) (by assumption) ?_; go_frame; refine wpAnyH_take (i := 20) (v := undef) (by simp only [List.getElem?_toArray, List.getElem?_cons_succ, List.getElem?_cons_zero]; rfl) (by kernel_rfl) (by kernel_rfl) (by kernel_rfl) (by exact fun _ _ _ h => h) (Or.inr ⟨by kernel_rfl, rfl⟩) (by assumption) ?_; go_frame; refine wpAnyH_take (i := 21) (v := undef) (by simp only [List.getElem?_toArray, List.getElem?_cons_succ, List.getElem?_cons_zero]; rfl) (by kernel_rfl) (by kernel_rfl) (by kernel_rfl) (by exact fun _ _ _ h => h) (Or.inr ⟨by kernel_rfl, rfl⟩) (by assumption) ?_; go_frame
    refine wpAnyH_take (i := 22) (v := ?v77) (by simp only [List.getElem?_toArray, List.getElem?_cons_succ, List.getElem?_cons_zero]; rfl) (by kernel_rfl) (by kernel_rfl) (by kernel_rfl) (by exact fun _ _ _ h => h) (Or.inl ⟨by kernel_rfl, ?hy77⟩) (by assumption) ?rest77; (case hy77 => (intro w hSw; (try dsimp only at hSw); go_simp) <;> with_reducible rfl); go_frame; refine wpAnyH_take (i := 23) (v := ?v78) (by simp only [List.getElem?_toArray, List.getElem?_cons_succ, List.getElem?_cons_zero]; rfl) (by kernel_rfl) (by kernel_rfl) (by kernel_rfl) (by exact fun _ _ _ h => h) (Or.inl ⟨by kernel_rfl, ?hy78⟩) (by assumption) ?rest78; (case hy78 => (intro w hSw; (try dsimp only at hSw); go_simp) <;> with_reducible rfl); go_frame
    refine wpAnyH_take (i := 24) (v := undef) (by simp only [List.getElem?_toArray, List.getElem?_cons_succ, List.getElem?_cons_zero]; rfl) (by kernel_rfl) (by kernel_rfl) (by kernel_rfl) (by exact fun _ _ _ h => h) (Or.inr ⟨by kernel_rfl, rfl⟩) (by assumption) ?_; go_frame; refine wpAnyH_take (i := 25) (v := undef) (by simp only [List.getElem?_toArray, List.getElem?_cons_succ, List.getElem?_cons_zero]; rfl) (by kernel_rfl) (by kernel_rfl) (by kernel_rfl) (by exact fun _ _ _ h => h) (Or.inr ⟨by kernel_rfl, rfl⟩) (by assumption) ?_; go_frame; refine wpAnyH_take (i := 26) (v := undef) (by simp only [List.getElem?_toArray, List.getElem?_cons_succ, List.getElem?_cons_zero]; rfl) (by kernel_rfl) (by kernel_rfl) (by kernel_rfl) (by exact fun _ _ _ h => h) (Or.inr ⟨by kernel_rfl, rfl⟩) (by assumption) ?_; go_frame
    refine wpAnyH_take (i := 27) (v := ?v79) (by simp only [List.getElem?_toArray, List.getElem?_cons_succ, List.getElem?_cons_zero]; rfl) (by kernel_rfl) (by kernel_rfl) (by kernel_rfl) (by exact fun _ _ _ h => h) (Or.inl ⟨by kernel_rfl, ?hy79⟩) (by assumption) ?rest79; (case hy79 => (intro w hSw; (try dsimp only at hSw); go_simp) <;> with_reducible rfl); go_frame; refine wpAnyH_take (i := 28) (v := ?v80) (by simp only [List.getElem?_toArray, List.getElem?_cons_succ, List.getElem?_cons_zero]; rfl) (by kernel_rfl) (by kernel_rfl) (by kernel_rfl) (by exact fun _ _ _ h => h) (Or.inl ⟨by kernel_rfl, ?hy80⟩) (by assumption) ?rest80; (case hy80 => (intro w hSw; (try dsimp only at hSw); go_simp) <;> with_reducible rfl); go_frame
    refine wpAnyH_take (i := 29) (v := undef) (by simp only [List.getElem?_toArray, List.getElem?_cons_succ, List.getElem?_cons_zero]; rfl) (by kernel_rfl) (by kernel_rfl) (by kernel_rfl) (by exact fun _ _ _ h => h) (Or.inr ⟨by kernel_rfl, rfl⟩) (by assumption) ?_; go_frame; refine wpAnyH_take (i := 30) (v := undef) (by simp only [List.getElem?_toArray, List.getElem?_cons_succ, List.getElem?_cons_zero]; rfl) (by kernel_rfl) (by kernel_rfl) (by kernel_rfl) (by exact fun _ _ _ h => h) (Or.inr ⟨by kernel_rfl, rfl⟩) (by assumption) ?_; go_frame; refine wpAnyH_take (i := 31) (v := undef) (by simp only [List.getElem?_toArray, List.getElem?_cons_succ, List.getElem?_cons_zero]; rfl) (by kernel_rfl) (by kernel_rfl) (by kernel_rfl) (by exact fun _ _ _ h => h) (Or.inr ⟨by kernel_rfl, rfl⟩) (by assumption) ?_; go_frame; refine wpAnyH_take (i := 32) (v := undef) (by simp only [List.getElem?_toArray, List.getElem?_cons_succ, List.getElem?_cons_zero]; rfl) (by kernel_rfl) (by kernel_rfl) (by kernel_rfl) (by exact fun _ _ _ h => h) (Or.inr ⟨by kernel_rfl, rfl⟩) (by assumption) ?_; go_frame; refine wpAnyH_take (i := 33) (v := undef) (by simp only [List.getElem?_toArray, List.getElem?_cons_succ, List.getElem?_cons_zero]; rfl) (by kernel_rfl) (by kernel_rfl) (by kernel_rfl) (by exact fun _ _ _ h => h) (Or.inr ⟨by kernel_rfl, rfl⟩) (by assumption) ?_; go_frame; refine wpAnyH_take (i := 34) (v := undef) (by simp only [List.getElem?_toArray, List.getElem?_cons_succ, List.getElem?_cons_zero]; rfl) (by kernel_rfl) (by kernel_rfl) (by kernel_rfl) (by exact fun _ _ _ h => h) (Or.inr ⟨by kernel_rfl, rfl⟩) (by assumption) ?_; go_frame
    refine wpAnyH_take (i := 35) (v := ?v81) (by simp only [List.getElem?_toArray, List.getElem?_cons_succ, List.getElem?_cons_zero]; rfl) (by kernel_rfl) (by kernel_rfl) (by kernel_rfl) (by exact fun _ _ _ h => h) (Or.inl ⟨by kernel_rfl, ?hy81⟩) (by assumption) ?rest81; (case hy81 => (intro w hSw; (try dsimp only at hSw); go_simp) <;> with_reducible rfl); go_frame; refine wpAnyH_take (i := 36) (v := ?v82) (by simp only [List.getElem?_toArray, List.getElem?_cons_succ, List.getElem?_cons_zero]; rfl) (by kernel_rfl) (by kernel_rfl) (by kernel_rfl) (by exact fun _ _ _ h => h) (Or.inl ⟨by kernel_rfl, ?hy82⟩) (by assumption) ?rest82; (case hy82 => (intro w hSw; (try dsimp only at hSw); go_simp) <;> with_reducible rfl); go_frame
    refine wpAnyH_done (by kernel_rfl) ?_ _
    go_wp2
    go_ret
    exact ⟨congrArg (fun b => Ending.returned (.bool b)) (hmay.out.trans (leaf_no 3 (by decide) e3.out)).symm, hb0.out.trans (hB.out.mono hb0.out.size)⟩
end Go.Proofs.YtjhodmpgggaknaaGreatDoor
