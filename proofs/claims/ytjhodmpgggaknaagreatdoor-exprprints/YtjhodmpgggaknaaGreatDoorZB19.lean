import Derived.Test.YtjhodmpgggaknaaGreatDoorZGN
import Derived.Test.YtjhodmpgggaknaaGreatDoorZGE
import Derived.Deep.CutRange
import Derived.BigQuiet
/- Contract of mayBe. -/
namespace Go.Proofs.YtjhodmpgggaknaaGreatDoor
open Go.RowKit Go.Shelf Go.Maps
theorem bne_u8 (a : UInt8) : ((a.toNat : Int) != 0) = (a != 0) := by
  by_cases h : a = 0
  · simp [h]
  · have h2 : a.toNat ≠ 0 := fun e => h (UInt8.toNat_inj.1 e)
    have h3 : ¬ ((a.toNat : Int) = 0) := by omega
    rw [bne_iff_ne.2 h, bne_iff_ne.2 h3]
theorem comps_1 {x : Nd} (h : (x.agg != 0) = true) : compsN x = true := by unfold compsN; rw [h]; rfl
theorem comps_2 {x : Nd} (h : x.sel.isEmpty = false) : compsN x = true := by unfold compsN; rw [h]; simp
theorem comps_3 {x : Nd} (h : (x.win != 0) = true) : compsN x = true := by unfold compsN; rw [h]; simp
theorem comps_4 {x : Nd} (h : (x.cmp != 0) = true) : compsN x = true := by unfold compsN; rw [h]; simp
theorem comps_5 {x : Nd} (h1 : (x.agg != 0) = false) (h2 : x.sel.isEmpty = true) (h3 : (x.win != 0) = false) (h4 : (x.cmp != 0) = false) : compsN x = (x.val != 0) := by unfold compsN; rw [h1, h2, h3, h4]; simp
theorem u8_ne {a b : UInt8} (h : ¬ a = b) : ((a.toNat : Int) == (b.toNat : Int)) = false := by
  have h2 : a.toNat ≠ b.toNat := fun e => h (UInt8.toNat_inj.1 e)
  have h3 : ¬ ((a.toNat : Int) = (b.toNat : Int)) := by omega
  exact beq_eq_false_iff_ne.2 h3
theorem sel_pos {x : Nd} {n : Nat} (h : x.sel.length = n + 1) : x.sel.isEmpty = false := by
  cases hs : x.sel with
  | nil => rw [hs] at h; cases h
  | cons a l => rfl
theorem sel_nil {x : Nd} (h : x.sel.length = 0) : x.sel.isEmpty = true := by rw [List.eq_nil_of_length_eq_zero h]; rfl
set_option maxRecDepth 100000 in
set_option maxHeartbeats 4000000 in
theorem mayBe_1 (x : Nd) (s : Value) (w : World) (hs : Mat.IsMs w s x.sel) (hk : x.kind = 1)  : Calls Tryz.prog 35 #[ndAgg x s] w fun e w' => e = .returned (.bool (mayBeN x)) ∧ Below w.heap.size w w' := by
  obtain ⟨sa, sc, rfl⟩ := hs.slice
  have g1 := bne_u8 x.agg
  have g4 := bne_u8 x.cmp
  have hmay : Hid (mayBeN x = !compsN x) := by show _ = _; unfold mayBeN; rw [if_neg (by rw [hk]; decide), if_pos (by rw [hk]; decide)]
  clear hs
  unfold ndAgg
  obtain ⟨n, hn⟩ : ∃ n, x.sel.length = n := ⟨_, rfl⟩
  rw [hn]
  replace hn := hid hn
  rw [hk]
  go_enter Tryz.func35, Tryz.ntmps35
  go_upto_region 1 with fail
  go_cut [0, 3] from 4 to 27 (fun _ s3 wx => s3 = .bool (compsN x) ∧ wx = w.alloc (.cells #[.int .u8 1, .int .u8 (x.agg.toNat : Int), .slice sa n sc, .int .i64 x.win, .int .u8 (x.cmp.toNat : Int), .int .i64 x.val, .int .i64 x.left, .int .i64 x.right] 31))
  case first =>
    cases e1 : (x.agg != 0)
    · cases n with
      | succ n =>
        have n2 := hid (comps_2 (sel_pos hn.out))
        rw [e1] at g1
        clear e1
        go_wp2
        go_meet
        exact ⟨congrArg Value.bool n2.out.symm, rfl⟩
      | zero =>
        have e2 := sel_nil hn.out
        cases e3 : (x.win != 0)
        · have hw0 := hid (show x.win = 0 by simpa using e3)
          cases e4 : (x.cmp != 0)
          · have n5 := hid (comps_5 e1 e2 e3 e4)
            have hc0 := hid (show (x.cmp.toNat : Int) = 0 by simp at e4; rw [e4]; rfl)
            rw [e1] at g1
            rw [e4] at g4
            clear e1 e2 e4
            go_wp2
            go_meet
            exact ⟨congrArg Value.bool n5.out.symm, by rw [hw0.out, hc0.out]⟩
          · have n4 := hid (comps_4 e4)
            rw [e1] at g1
            rw [e4] at g4
            clear e1 e2 e4
            go_wp2
            go_meet
            exact ⟨congrArg Value.bool n4.out.symm, by rw [hw0.out]⟩
        · have n3 := hid (comps_3 e3)
          rw [e1] at g1
          clear e1 e2
          go_wp2
          go_meet
          exact ⟨congrArg Value.bool n3.out.symm, rfl⟩
    · have n1 := hid (comps_1 e1)
      rw [e1] at g1
      clear e1
      go_wp2
      go_meet
      exact ⟨congrArg Value.bool n1.out.symm, rfl⟩
  case rest =>
    obtain ⟨rfl, rfl⟩ := hcut
    clear g1 g4
    generalize compsN x = cb at *
    go_wp2
    go_ret
    exact ⟨congrArg (fun b => Ending.returned (.bool b)) hmay.out.symm, alloc_below _ _⟩
set_option maxRecDepth 100000 in
set_option maxHeartbeats 4000000 in
theorem mayBe_2 (x : Nd) (s : Value) (w : World) (hs : Mat.IsMs w s x.sel) (hk : x.kind = 2)  : Calls Tryz.prog 35 #[ndAgg x s] w fun e w' => e = .returned (.bool (mayBeN x)) ∧ Below w.heap.size w w' := by
  obtain ⟨sa, sc, rfl⟩ := hs.slice
  have g1 := bne_u8 x.agg
  have g4 := bne_u8 x.cmp
  have hmay : Hid (mayBeN x = !compsN x) := by show _ = _; unfold mayBeN; rw [if_neg (by rw [hk]; decide), if_pos (by rw [hk]; decide)]
  clear hs
  unfold ndAgg
  obtain ⟨n, hn⟩ : ∃ n, x.sel.length = n := ⟨_, rfl⟩
  rw [hn]
  replace hn := hid hn
  rw [hk]
  go_enter Tryz.func35, Tryz.ntmps35
  go_upto_region 1 with fail
  go_cut [0, 3] from 4 to 27 (fun _ s3 wx => s3 = .bool (compsN x) ∧ wx = w.alloc (.cells #[.int .u8 2, .int .u8 (x.agg.toNat : Int), .slice sa n sc, .int .i64 x.win, .int .u8 (x.cmp.toNat : Int), .int .i64 x.val, .int .i64 x.left, .int .i64 x.right] 31))
  case first =>
    cases e1 : (x.agg != 0)
    · cases n with
      | succ n =>
        have n2 := hid (comps_2 (sel_pos hn.out))
        rw [e1] at g1
        clear e1
        go_wp2
        go_meet
        exact ⟨congrArg Value.bool n2.out.symm, rfl⟩
      | zero =>
        have e2 := sel_nil hn.out
        cases e3 : (x.win != 0)
        · have hw0 := hid (show x.win = 0 by simpa using e3)
          cases e4 : (x.cmp != 0)
          · have n5 := hid (comps_5 e1 e2 e3 e4)
            have hc0 := hid (show (x.cmp.toNat : Int) = 0 by simp at e4; rw [e4]; rfl)
            rw [e1] at g1
            rw [e4] at g4
            clear e1 e2 e4
            go_wp2
            go_meet
            exact ⟨congrArg Value.bool n5.out.symm, by rw [hw0.out, hc0.out]⟩
          · have n4 := hid (comps_4 e4)
            rw [e1] at g1
            rw [e4] at g4
            clear e1 e2 e4
            go_wp2
            go_meet
            exact ⟨congrArg Value.bool n4.out.symm, by rw [hw0.out]⟩
        · have n3 := hid (comps_3 e3)
          rw [e1] at g1
          clear e1 e2
          go_wp2
          go_meet
          exact ⟨congrArg Value.bool n3.out.symm, rfl⟩
    · have n1 := hid (comps_1 e1)
      rw [e1] at g1
      clear e1
      go_wp2
      go_meet
      exact ⟨congrArg Value.bool n1.out.symm, rfl⟩
  case rest =>
    obtain ⟨rfl, rfl⟩ := hcut
    clear g1 g4
    generalize compsN x = cb at *
    go_wp2
    go_ret
    exact ⟨congrArg (fun b => Ending.returned (.bool b)) hmay.out.symm, alloc_below _ _⟩
set_option maxRecDepth 100000 in
set_option maxHeartbeats 4000000 in
theorem mayBe_3 (x : Nd) (s : Value) (w : World) (hs : Mat.IsMs w s x.sel) (hk : x.kind = 3)  : Calls Tryz.prog 35 #[ndAgg x s] w fun e w' => e = .returned (.bool (mayBeN x)) ∧ Below w.heap.size w w' := by
  obtain ⟨sa, sc, rfl⟩ := hs.slice
  have g1 := bne_u8 x.agg
  have g4 := bne_u8 x.cmp
  have hmay : Hid (mayBeN x = (!compsN x && x.right == 0)) := by show _ = _; unfold mayBeN; rw [if_neg (by rw [hk]; decide), if_neg (by rw [hk]; decide), if_pos hk]
  clear hs
  unfold ndAgg
  obtain ⟨n, hn⟩ : ∃ n, x.sel.length = n := ⟨_, rfl⟩
  rw [hn]
  replace hn := hid hn
  rw [hk]
  go_enter Tryz.func35, Tryz.ntmps35
  go_upto_region 1 with fail
  go_cut [0, 3] from 4 to 27 (fun _ s3 wx => s3 = .bool (compsN x) ∧ wx = w.alloc (.cells #[.int .u8 3, .int .u8 (x.agg.toNat : Int), .slice sa n sc, .int .i64 x.win, .int .u8 (x.cmp.toNat : Int), .int .i64 x.val, .int .i64 x.left, .int .i64 x.right] 31))
  case first =>
    cases e1 : (x.agg != 0)
    · cases n with
      | succ n =>
        have n2 := hid (comps_2 (sel_pos hn.out))
        rw [e1] at g1
        clear e1
        go_wp2
        go_meet
        exact ⟨congrArg Value.bool n2.out.symm, rfl⟩
      | zero =>
        have e2 := sel_nil hn.out
        cases e3 : (x.win != 0)
        · have hw0 := hid (show x.win = 0 by simpa using e3)
          cases e4 : (x.cmp != 0)
          · have n5 := hid (comps_5 e1 e2 e3 e4)
            have hc0 := hid (show (x.cmp.toNat : Int) = 0 by simp at e4; rw [e4]; rfl)
            rw [e1] at g1
            rw [e4] at g4
            clear e1 e2 e4
            go_wp2
            go_meet
            exact ⟨congrArg Value.bool n5.out.symm, by rw [hw0.out, hc0.out]⟩
          · have n4 := hid (comps_4 e4)
            rw [e1] at g1
            rw [e4] at g4
            clear e1 e2 e4
            go_wp2
            go_meet
            exact ⟨congrArg Value.bool n4.out.symm, by rw [hw0.out]⟩
        · have n3 := hid (comps_3 e3)
          rw [e1] at g1
          clear e1 e2
          go_wp2
          go_meet
          exact ⟨congrArg Value.bool n3.out.symm, rfl⟩
    · have n1 := hid (comps_1 e1)
      rw [e1] at g1
      clear e1
      go_wp2
      go_meet
      exact ⟨congrArg Value.bool n1.out.symm, rfl⟩
  case rest =>
    obtain ⟨rfl, rfl⟩ := hcut
    clear g1 g4
    generalize compsN x = cb at *
    cases cb
    · go_wp2
      go_ret
      exact ⟨congrArg (fun b => Ending.returned (.bool b)) hmay.out.symm, alloc_below _ _⟩
    · go_wp2
      go_ret
      exact ⟨congrArg (fun b => Ending.returned (.bool b)) hmay.out.symm, alloc_below _ _⟩
set_option maxRecDepth 100000 in
set_option maxHeartbeats 4000000 in
theorem mayBe_4 (x : Nd) (s : Value) (w : World) (hs : Mat.IsMs w s x.sel) (hk : ¬ x.kind = 0) (hk1 : ¬ x.kind = 1) (hk2 : ¬ x.kind = 2) (hk3 : ¬ x.kind = 3) : Calls Tryz.prog 35 #[ndAgg x s] w fun e w' => e = .returned (.bool (mayBeN x)) ∧ Below w.heap.size w w' := by
  obtain ⟨sa, sc, rfl⟩ := hs.slice
  have g1 := bne_u8 x.agg
  have g4 := bne_u8 x.cmp
  have hmay : Hid (mayBeN x = false) := by show _ = _; unfold mayBeN; rw [if_neg hk, if_neg (by simp [hk1, hk2]), if_neg hk3]
  have m0 := u8_ne (b := 0) hk
  have m1 := u8_ne (b := 1) hk1
  have m2 := u8_ne (b := 2) hk2
  have m3 := u8_ne (b := 3) hk3
  simp at m0 m1 m2 m3
  clear hs
  unfold ndAgg
  obtain ⟨n, hn⟩ : ∃ n, x.sel.length = n := ⟨_, rfl⟩
  rw [hn]
  replace hn := hid hn
  skip
  go_enter Tryz.func35, Tryz.ntmps35
  go_upto_region 1 with fail
  go_cut [0, 3] from 4 to 27 (fun _ s3 wx => s3 = .bool (compsN x) ∧ wx = w.alloc (.cells #[.int .u8 (x.kind.toNat : Int), .int .u8 (x.agg.toNat : Int), .slice sa n sc, .int .i64 x.win, .int .u8 (x.cmp.toNat : Int), .int .i64 x.val, .int .i64 x.left, .int .i64 x.right] 31))
  case first =>
    cases e1 : (x.agg != 0)
    · cases n with
      | succ n =>
        have n2 := hid (comps_2 (sel_pos hn.out))
        rw [e1] at g1
        clear e1
        go_wp2
        go_meet
        exact ⟨congrArg Value.bool n2.out.symm, rfl⟩
      | zero =>
        have e2 := sel_nil hn.out
        cases e3 : (x.win != 0)
        · have hw0 := hid (show x.win = 0 by simpa using e3)
          cases e4 : (x.cmp != 0)
          · have n5 := hid (comps_5 e1 e2 e3 e4)
            have hc0 := hid (show (x.cmp.toNat : Int) = 0 by simp at e4; rw [e4]; rfl)
            rw [e1] at g1
            rw [e4] at g4
            clear e1 e2 e4
            go_wp2
            go_meet
            exact ⟨congrArg Value.bool n5.out.symm, by rw [hw0.out, hc0.out]⟩
          · have n4 := hid (comps_4 e4)
            rw [e1] at g1
            rw [e4] at g4
            clear e1 e2 e4
            go_wp2
            go_meet
            exact ⟨congrArg Value.bool n4.out.symm, by rw [hw0.out]⟩
        · have n3 := hid (comps_3 e3)
          rw [e1] at g1
          clear e1 e2
          go_wp2
          go_meet
          exact ⟨congrArg Value.bool n3.out.symm, rfl⟩
    · have n1 := hid (comps_1 e1)
      rw [e1] at g1
      clear e1
      go_wp2
      go_meet
      exact ⟨congrArg Value.bool n1.out.symm, rfl⟩
  case rest =>
    obtain ⟨rfl, rfl⟩ := hcut
    clear g1 g4
    generalize compsN x = cb at *
    go_wp2
    go_ret
    exact ⟨congrArg (fun b => Ending.returned (.bool b)) hmay.out.symm, alloc_below _ _⟩
end Go.Proofs.YtjhodmpgggaknaaGreatDoor
