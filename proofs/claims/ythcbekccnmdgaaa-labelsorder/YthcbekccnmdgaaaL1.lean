/- Contracts of Less: cmp.Or of two numbers, compare, the row's function, Less; the document's Less. -/
import Derived.Test.YthcbekccnmdgaaaR1
import Derived.Test.YthcbekccnmdgaaaShelf
import Derived.Deep.RegionHeld3
import Derived.Deep.RegionWith
namespace Go.Proofs.Ythcbekccnmdgaaa
open Go.RowKit Go.Shelf

theorem ret_i {a b : Int} (h : a = b) : Ending.returned (.int .i64 a) = .returned (.int .i64 b) := by rw [h]
set_option maxHeartbeats 1000000 in
theorem or_any (b : Nat) (x y r : Int) (c : Nat) (w : World) (hr : r = if x ≠ 0 then x else y) (h0 : w.cell? ⟨b, 0, none⟩ = some (.int .i64 x)) (h1 : w.cell? ⟨b, 1, none⟩ = some (.int .i64 y)) : Calls Try.prog 48 #[.slice (some ⟨b, 0, none⟩) 2 c] w fun e w' => e = .returned (.int .i64 r) ∧ w' = w := by
  by_cases hx : x = 0
  · have hx' : (x == 0) = true := by simpa using hx
    have e : Hid (y = r) := by rw [hr, if_neg (by omega)]; rfl
    clear hr
    by_cases hy : y = 0
    · have hy' : (y == 0) = true := by simpa using hy
      have e0 : Hid (0 = r) := hy.symm.trans e.out
      clear hx hy e
      go_enter Try.func48, Try.ntmps48
      go_wp2
      go_loop [8] (fun iv => ∃ j : Nat, j ≤ 2 ∧ iv = .int .i64 j) (fun iv => 2 - (intOf iv).toNat)
      case atStart => exact ⟨0, by omega, rfl⟩
      case round =>
        obtain ⟨j, hj, rfl⟩ := hrel
        obtain rfl | rfl | rfl : j = 0 ∨ j = 1 ∨ j = 2 := by omega
        · go_wp2
          exact ⟨⟨1, by omega, by go_num⟩, by simp [intOf]⟩
        · go_wp2
          exact ⟨⟨2, by omega, by go_num⟩, by simp [intOf]⟩
        · go_wp2
          go_ret
          exact ⟨ret_i e0.out, rfl⟩
    · have hy' : (y == 0) = false := by simpa using hy
      clear hx hy
      go_enter Try.func48, Try.ntmps48
      go_wp2
      go_loop [8] (fun iv => ∃ j : Nat, j ≤ 1 ∧ iv = .int .i64 j) (fun iv => 2 - (intOf iv).toNat)
      case atStart => exact ⟨0, by omega, rfl⟩
      case round =>
        obtain ⟨j, hj, rfl⟩ := hrel
        obtain rfl | rfl : j = 0 ∨ j = 1 := by omega
        · go_wp2
          exact ⟨⟨1, by omega, by go_num⟩, by simp [intOf]⟩
        · go_wp2
          go_ret
          exact ⟨ret_i e.out, rfl⟩
  · have hx' : (x == 0) = false := by simpa using hx
    have e : Hid (x = r) := by rw [hr, if_pos hx]; rfl
    clear hr
    clear hx
    go_enter Try.func48, Try.ntmps48
    go_wp2
    go_loop [8] (fun iv => iv = .int .i64 0) (fun iv => 2 - (intOf iv).toNat)
    case atStart => exact rfl
    case round =>
      obtain rfl := hrel
      go_wp2
      go_ret
      exact ⟨ret_i e.out, rfl⟩
theorem cmp_any (a b : Tx) (w : World) : Calls Try.prog 49 #[str a, str b] w fun e w' => e = .returned (.int .i64 (cb a b)) ∧ w' = w := by
  have := Try.strings_Compare ⟨a.toArray⟩ ⟨b.toArray⟩ w
  unfold str cb
  simpa using this
theorem two_blocks (w : World) (o1 o2 : Obj) : ((w.alloc o1).alloc o2).heap[w.heap.size]? = some o1 ∧ ((w.alloc o1).alloc o2).heap[w.heap.size + 1]? = some o2 := by
  constructor
  · exact ((alloc_below (w.alloc o1) o2).block w.heap.size (by simp)).trans (new_block w o1)
  · have := new_block (w.alloc o1) o2
    simpa using this
theorem cell_fresh {W : World} {C : Array Value} {t : TypeId} {b j : Nat} {u : Value} (hb : b = W.heap.size) (hu : C[j]? = some u) : (W.alloc (.cells C t)).drew.cell? ⟨b, j, none⟩ = some u := by
  subst hb
  show (W.alloc (.cells C t)).cell? ⟨W.heap.size, j, none⟩ = some u
  rw [cell_of (new_block W _)]
  exact hu
set_option maxHeartbeats 1000000 in
theorem compare_any (x y : Lb) (w : World) : Calls Try.prog 40 #[.agg #[str x.1, str x.2], .agg #[str y.1, str y.2]] w fun e w' => e = .returned (.int .i64 (cmpL x y)) ∧ Below w.heap.size w w' := by
  obtain ⟨xn, xv⟩ := x
  obtain ⟨yn, yv⟩ := y
  have hn := hid (cmp_any xn yn)
  have hv := hid (cmp_any xv yv)
  obtain ⟨V, hV⟩ : ∃ V, V = (w.alloc (.cells #[.string ⟨xn.toArray⟩, .string ⟨xv.toArray⟩] 37)).alloc (.cells #[.string ⟨yn.toArray⟩, .string ⟨yv.toArray⟩] 37) := ⟨_, rfl⟩
  have hB : Hid (Below w.heap.size w V) := by rw [hV]; exact ((Below.refl _ _).alloc (Nat.le_refl _) _).alloc (by simp) _
  have x0 : w.heap[w.heap.size]? = none := by simp
  have e1 := (two_blocks w (.cells #[.string ⟨xn.toArray⟩, .string ⟨xv.toArray⟩] 37) (.cells #[.string ⟨yn.toArray⟩, .string ⟨yv.toArray⟩] 37)).1
  have e2 := (two_blocks w (.cells #[.string ⟨xn.toArray⟩, .string ⟨xv.toArray⟩] 37) (.cells #[.string ⟨yn.toArray⟩, .string ⟨yv.toArray⟩] 37)).2
  rw [← hV] at e1 e2
  have q0 : V.cell? ⟨w.heap.size, 0, none⟩ = some (.string ⟨xn.toArray⟩) := by rw [cell_of e1]; rfl
  have q1 : V.cell? ⟨w.heap.size, 1, none⟩ = some (.string ⟨xv.toArray⟩) := by rw [cell_of e1]; rfl
  have q2 : V.cell? ⟨w.heap.size + 1, 0, none⟩ = some (.string ⟨yn.toArray⟩) := by rw [cell_of e2]; rfl
  have q3 : V.cell? ⟨w.heap.size + 1, 1, none⟩ = some (.string ⟨yv.toArray⟩) := by rw [cell_of e2]; rfl
  have e : Hid (cmpL (xn, xv) (yn, yv) = if cb xn yn ≠ 0 then cb xn yn else cb xv yv) := rfl
  clear e1 e2 x0
  generalize cmpL (xn, xv) (yn, yv) = r at *
  generalize cb xn yn = p at *
  generalize cb xv yv = q at *
  unfold str at *
  have hV' := hid hV.symm
  clear hV
  go_enter Try.func40, Try.ntmps40
  go_wp2_with fail
  rw [hV'.out]
  clear hV'
  go_region_held3 (fun w' => w'.cell? ⟨w.heap.size, 0, none⟩ = some (.string ⟨xn.toArray⟩) ∧ w'.cell? ⟨w.heap.size, 1, none⟩ = some (.string ⟨xv.toArray⟩) ∧ w'.cell? ⟨w.heap.size + 1, 0, none⟩ = some (.string ⟨yn.toArray⟩) ∧ w'.cell? ⟨w.heap.size + 1, 1, none⟩ = some (.string ⟨yv.toArray⟩)) (go_keep) (first | (go_at_call 49; refine (hn.out _).mono ?_; rintro e w' ⟨rfl, rfl⟩) | (go_at_call 49; refine (hv.out _).mono ?_; rintro e w' ⟨rfl, rfl⟩) | (go_at_call 48; refine (or_any _ p q r _ _ e.out (cell_fresh (by simp) rfl) (cell_fresh (by simp) rfl)).mono ?_; rintro e w' ⟨rfl, rfl⟩))
  go_wp2
  go_ret
  exact ⟨rfl, low' hB.out (below_drew (alloc_below _ _))⟩
theorem e_compare : Enters Try.prog 40 := enters_of Try.func40 (by kernel_rfl) rfl
set_option maxHeartbeats 1000000 in
theorem lessRow_any (va vb : Value) (a b : List Lb) (w : World) (ha : IsLs w va a) (hb : IsLs w vb b) : Calls Try.prog 39 #[va, vb, .func (.func 40) #[] #[]] w fun e w' => e = .returned (.bool (lessL a b)) ∧ Below w.heap.size w w' := by
  obtain ⟨aa, ca, rfl⟩ := ha.slice
  obtain ⟨ab, cb, rfl⟩ := hb.slice
  have hba := ha.bound
  have hbb := hb.bound
  have ek' : ∀ (args : Array Value) (w : World), (callFunc 40 args).run Try.prog w = .ok (.enter 40 args) w := e_compare
  replace ha := hid ha
  replace hb := hid hb
  obtain ⟨m, hm⟩ : ∃ m, m = min a.length b.length := ⟨_, rfl⟩
  have hmi : min (a.length : Int) (b.length : Int) = (m : Int) := by omega
  have hma : m ≤ a.length := by omega
  have hmb : m ≤ b.length := by omega
  have hmm : Hid (a.length ≤ m ∨ b.length ≤ m) := by unfold Hid; omega
  clear hm
  go_enter Try.func39, Try.ntmps39
  go_wp2
  go_loopw [14] (fun iv wr => ∃ k : Nat, k ≤ m ∧ iv = .int .i64 (k : Int) ∧ Hid (lessL (a.drop k) (b.drop k) = lessL a b) ∧ Hid (Below w.heap.size w wr)) (fun iv _ => m - (intOf iv).toNat)
  case atStart => exact ⟨0, by omega, rfl, rfl, Below.refl _ _⟩
  case round =>
    obtain ⟨k, hk, rfl, hp, hB⟩ := hrel
    obtain ⟨V, rfl⟩ : ∃ V : World, V = wr := ⟨_, rfl⟩
    by_cases hlt : k < m
    · have hlt' : (k : Int) < (m : Int) := by omega
      have hlta : (k : Int) < (a.length : Int) := by omega
      have hltb : (k : Int) < (b.length : Int) := by omega
      have hlta' : k < a.length := by omega
      have hltb' : k < b.length := by omega
      obtain ⟨b1, o1, rfl, hc1⟩ := (ha.out.below hB.out).at hlta'
      obtain ⟨b2, o2, rfl, hc2⟩ := (hb.out.below hB.out).at hltb'
      obtain ⟨⟨xn, xv⟩, hx⟩ : ∃ x, a[k]? = some x := ⟨_, List.getElem?_eq_getElem hlta'⟩
      obtain ⟨⟨yn, yv⟩, hy⟩ : ∃ x, b[k]? = some x := ⟨_, List.getElem?_eq_getElem hltb'⟩
      obtain ⟨c0, c1⟩ := hc1 k _ hx
      obtain ⟨d0, d1⟩ := hc2 k _ hy
      have hst := hid ((less_step hx hy).symm.trans hp.out)
      have hcmp := hid (compare_any (xn, xv) (yn, yv))
      simp only at c0 c1 d0 d1 hcmp
      generalize cmpL (xn, xv) (yn, yv) = r at *
      unfold str at *
      clear hp hc1 hc2 hx hy
      have hcase : r = 0 ∨ r < 0 ∨ 0 < r := by omega
      rcases hcase with h | h | h
      · have r1 : (r == 0) = true := by simpa using h
        have hp : Hid (lessL (a.drop (k + 1)) (b.drop (k + 1)) = lessL a b) := by
          have := hst.out
          rw [if_neg (by omega)] at this
          exact this
        clear h hst
        go_wp2_with fail
        go_region_with (go_at_fn 40; refine (hcmp.out _).mono ?_; rintro e w' ⟨rfl, b5⟩; replace b5 := hid b5)
        all_goals go_wp2
        all_goals exact ⟨⟨k + 1, by omega, by go_num, hp, low' (below_drew hB.out) b5.out⟩, by simp [intOf]; omega⟩
      · have r1 : (r == 0) = false := by simp; omega
        have r2 : decide (r < 0) = true := by simpa using h
        have e : Hid (true = lessL a b) := by
          have := hst.out
          rw [if_pos (by omega), r2] at this
          exact this
        clear h hst
        go_wp2_with fail
        go_region_with (go_at_fn 40; refine (hcmp.out _).mono ?_; rintro e w' ⟨rfl, b5⟩; replace b5 := hid b5)
        all_goals go_wp2
        all_goals go_ret
        all_goals exact ⟨ret_bool e.out, low' (below_drew hB.out) b5.out⟩
      · have r1 : (r == 0) = false := by simp; omega
        have r2 : decide (r < 0) = false := by simp; omega
        have e : Hid (false = lessL a b) := by
          have := hst.out
          rw [if_pos (by omega), r2] at this
          exact this
        clear h hst
        go_wp2_with fail
        go_region_with (go_at_fn 40; refine (hcmp.out _).mono ?_; rintro e w' ⟨rfl, b5⟩; replace b5 := hid b5)
        all_goals go_wp2
        all_goals go_ret
        all_goals exact ⟨ret_bool e.out, low' (below_drew hB.out) b5.out⟩
    · have hlt' : ¬ (k : Int) < (m : Int) := by omega
      obtain rfl : k = m := by omega
      have e : Hid (decide (a.length < b.length) = lessL a b) := (less_end hmm.out hma hmb).symm.trans hp.out
      clear hp
      go_wp2
      go_ret
      exact ⟨ret_bool e.out, hB.out⟩
set_option maxHeartbeats 400000 in
theorem less_any (va vb : Value) (a b : List Lb) (w : World) (ha : IsLs w va a) (hb : IsLs w vb b) : Calls Try.prog 26 #[va, vb] w fun e w' => e = .returned (.bool (lessL a b)) ∧ Below w.heap.size w w' := by
  have hl := hid (lessRow_any va vb a b w ha hb)
  obtain ⟨aa, ca, rfl⟩ := ha.slice
  obtain ⟨ab, cb, rfl⟩ := hb.slice
  go_enter Try.func26, Try.ntmps26
  go_wp2_with (go_at_call 39; refine hl.out.mono ?_; rintro e w' ⟨rfl, b5⟩)
  go_ret
  exact ⟨rfl, b5⟩
end Go.Proofs.Ythcbekccnmdgaaa
