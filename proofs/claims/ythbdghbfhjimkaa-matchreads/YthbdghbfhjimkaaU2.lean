/- Contracts of what each Op asks; of Does. -/
import Derived.Test.YthbdghbfhjimkaaU1
import Derived.Test.YthbdghbfhjimkaaW3
import Derived.Deep.RegionHeld3
import Derived.Deep.RegionWith
namespace Go.Proofs.Ythbdghbfhjimkaa
open Go.RowKit Go.Shelf Go.Maps

theorem q1_any (a b : Tx) (w : World) : Calls Try.prog 40 #[str a, str b] w fun e w' => e = .returned (.bool (a == b)) ∧ w' = w := by
  unfold str
  go_enter Try.func40, Try.ntmps40
  go_wp2
  go_ret
  exact ⟨rfl, rfl⟩
theorem q2_any (a b : Tx) (w : World) : Calls Try.prog 41 #[str a, str b] w fun e w' => e = .returned (.bool (a != b)) ∧ w' = w := by
  unfold str
  go_enter Try.func41, Try.ntmps41
  go_wp2
  go_ret
  exact ⟨rfl, rfl⟩
theorem e_q1 : Enters Try.prog 40 := enters_of Try.func40 (by kernel_rfl) rfl
theorem e_q2 : Enters Try.prog 41 := enters_of Try.func41 (by kernel_rfl) rfl
theorem e_q3 : Enters Try.prog 38 := enters_of Try.func38 (by kernel_rfl) rfl
theorem ask_any {o : UInt8} (h : o.toNat ≤ 2) : ∃ k, fnAt o = .func (.func k) #[] #[] ∧ Enters Try.prog k ∧ ∀ a b w, Calls Try.prog k #[str a, str b] w fun e w' => e = .returned (.bool (asks o a b)) ∧ w' = w := by
  rcases op_cases h with rfl | rfl | rfl
  · exact ⟨_, rfl, e_q1, q1_any⟩
  · exact ⟨_, rfl, e_q2, q2_any⟩
  · exact ⟨_, rfl, e_q3, fun a b w => Try.strings_HasPrefix ⟨a.toArray⟩ ⟨b.toArray⟩ w⟩
theorem ask_none {o : UInt8} (h : ¬ o.toNat ≤ 2) : fnAt o = .nilFunc ∧ ∀ a b, asks o a b = false := by
  have h0 : o ≠ 0 := by rintro rfl; exact h (by decide)
  have h1 : o ≠ 1 := by rintro rfl; exact h (by decide)
  have h2 : o ≠ 2 := by rintro rfl; exact h (by decide)
  unfold fnAt asks
  simp [h0, h1, h2]
theorem does_false {m : List Mt} {l : List Lb} {x : Mt} (h : x ∈ m) (hx : does1 l x = false) : Hid (false = doesM m l) := by
  unfold Hid doesM
  symm
  rw [List.all_eq_false]
  exact ⟨x, h, by rw [hx]; simp⟩
theorem eq_fn (k : FuncId) (W : World) : (binOp .eql 47 (.func (.func k) #[] #[]) .nilFunc).run Try.prog W = .ok (.bool false) W := by
  kernel_rfl
theorem eq_nil (W : World) : (binOp .eql 47 .nilFunc .nilFunc).run Try.prog W = .ok (.bool true) W := by
  kernel_rfl
set_option maxRecDepth 100000 in
set_option maxHeartbeats 2000000 in
theorem does_any (v vl : Value) (m : List Mt) (l : List Lb) (w : World) (h : IsMs w v m) (hl : IsLs w vl l) : Calls Try.prog 16 #[v, vl] w fun e w' => e = .returned (.bool (doesM m l)) ∧ Below w.heap.size w w' := by
  obtain ⟨a, c, rfl⟩ := h.slice
  obtain ⟨al, cl, rfl⟩ := hl.slice
  have hb := h.bound
  have hbl := hl.bound
  replace h := hid h
  replace hl := hid hl
  go_enter Try.func16, Try.ntmps16
  go_wp2_with fail
  refine (questions_any w).mono ?_
  rintro e w0 ⟨b, rfl, hq, b0⟩
  replace hq := hid hq
  have B0 := hid b0
  clear b0
  go_wp2
  go_loopw [12] (fun iv wr => ∃ j : Nat, j ≤ m.length ∧ iv = .int .i64 j ∧ Hid (∀ i x, i < j → m[i]? = some x → does1 l x = true) ∧ Hid (QsAt wr b) ∧ Hid (Below w.heap.size w wr)) (fun iv _ => m.length - (intOf iv).toNat)
  case atStart => exact ⟨0, by omega, rfl, (fun i x hi => by omega), hq.out, B0.out⟩
  case round =>
    obtain ⟨j, hj, rfl, hp, hQ, hB⟩ := hrel
    clear hq B0
    obtain ⟨V, rfl⟩ : ∃ V : World, V = wr := ⟨_, rfl⟩
    by_cases hlt : j < m.length
    · have hlt' : (j : Int) < (m.length : Int) := by omega
      obtain ⟨bm, off, rfl, hc⟩ := (h.out.below hB.out).at hlt
      obtain ⟨⟨xn, xo, xv⟩, hx⟩ : ∃ x, m[j]? = some x := ⟨_, List.getElem?_eq_getElem hlt⟩
      obtain ⟨c0, c1, c2⟩ := hc j _ hx
      have hblk := World.block_lt_of_cell? V _ c0
      simp only at c0 c1 c2 hblk
      have hmid := h.out.mid hx
      have hbs := hB.out.size
      have hQ1 := look_at (hQ.out.below (alloc_below V (.cells #[.string ⟨xn.toArray⟩, .int .u8 (xo.toNat : Int), .string ⟨xv.toArray⟩] 37))) xo
      have hU : ∀ W, Below (V.alloc (.cells #[.string ⟨xn.toArray⟩, .int .u8 (xo.toNat : Int), .string ⟨xv.toArray⟩] 37)).heap.size (V.alloc (.cells #[.string ⟨xn.toArray⟩, .int .u8 (xo.toNat : Int), .string ⟨xv.toArray⟩] 37)) W →
          W.cell? ⟨V.heap.size, 0, none⟩ = some (.string ⟨xn.toArray⟩) ∧ W.cell? ⟨V.heap.size, 1, none⟩ = some (.int .u8 (xo.toNat : Int)) ∧ W.cell? ⟨V.heap.size, 2, none⟩ = some (.string ⟨xv.toArray⟩) ∧
          Hid (QsAt W b ∧ Below w.heap.size w W ∧ IsLs W (.slice al l.length cl) l) := fun W hW => by
        have hnb := (hW.block V.heap.size (by simp)).trans (new_block V (.cells #[.string ⟨xn.toArray⟩, .int .u8 (xo.toNat : Int), .string ⟨xv.toArray⟩] 37))
        have bV := low' (alloc_below V (.cells #[.string ⟨xn.toArray⟩, .int .u8 (xo.toNat : Int), .string ⟨xv.toArray⟩] 37)) hW
        exact ⟨by rw [cell_of hnb]; rfl, by rw [cell_of hnb]; rfl, by rw [cell_of hnb]; rfl, hQ.out.below bV, low' hB.out bV, hl.out.below (low' hB.out bV)⟩
      replace hU := hid hU
      have hnew : does1 l (xn, xo, xv) = asks xo (valueL l xn) xv := rfl
      have hyes : does1 l (xn, xo, xv) = true → Hid (∀ i x, i < j + 1 → m[i]? = some x → does1 l x = true) := fun hd i x hi hx' => by
        by_cases e : i = j
        · subst e
          rw [hx] at hx'
          cases hx'
          exact hd
        · exact hp.out i x (by omega) hx'
      have hno := fun hd => does_false (l := l) (List.mem_of_getElem? hx) hd
      rw [hnew] at hyes hno
      replace hyes := hid hyes
      replace hno := hid hno
      unfold opv at hQ1
      unfold str opv at *
      clear hp hc hx hnew
      by_cases ho : xo.toNat ≤ 2
      · obtain ⟨k, hk, ek, hask⟩ := ask_any ho
        rw [hk] at hQ1
        have heq := eq_fn k
        have ek' : ∀ (args : Array Value) (w : World), (callFunc k args).run Try.prog w = .ok (.enter k args) w := ek
        have hval := hid (fun W => value_any (.slice al l.length cl) l xn W)
        cases hd : asks xo (valueL l xn) xv
        · have e := hno.out hd
          have hask' := hid (hask (valueL l xn) xv)
          rw [hd] at hask'
          clear hyes hno hd hask hk ek ho hQ hB
          unfold str at *
          go_wp2_with fail
          generalize hgU : V.alloc (.cells #[.string ⟨xn.toArray⟩, .int .u8 (xo.toNat : Int), .string ⟨xv.toArray⟩] 37) = U at *
          clear hgU hQ1
          have hUU : Hid (Below U.heap.size U U) := Below.refl _ _
          obtain ⟨g0, g1, g2, g3⟩ := hU.out U hUU.out
          go_region_held3 (fun w' => w'.cell? ⟨V.heap.size, 0, none⟩ = some (.string ⟨xn.toArray⟩) ∧ w'.cell? ⟨V.heap.size, 2, none⟩ = some (.string ⟨xv.toArray⟩)) (go_keep) (first | (go_at_call 34; refine (hval.out _ (hU.out _ (below_drewN (n := 1) hUU.out)).2.2.2.out.2.2).mono ?_; rintro e w5 ⟨rfl, b5⟩; have B5 := hid (low' (below_drewN (n := 1) hUU.out) b5); obtain ⟨j0, j1, j2, j3⟩ := hU.out w5 B5.out; clear b5) | (go_at_fn k; refine (hask'.out _).mono ?_; rintro e w6 ⟨rfl, rfl⟩))
          go_wp2
          go_ret
          exact ⟨ret_bool e.out, j3.out.2.1⟩
        · have e := hyes.out hd
          have hask' := hid (hask (valueL l xn) xv)
          rw [hd] at hask'
          clear hyes hno hd hask hk ek ho hQ hB
          unfold str at *
          go_wp2_with fail
          generalize hgU : V.alloc (.cells #[.string ⟨xn.toArray⟩, .int .u8 (xo.toNat : Int), .string ⟨xv.toArray⟩] 37) = U at *
          clear hgU hQ1
          have hUU : Hid (Below U.heap.size U U) := Below.refl _ _
          obtain ⟨g0, g1, g2, g3⟩ := hU.out U hUU.out
          go_region_held3 (fun w' => w'.cell? ⟨V.heap.size, 0, none⟩ = some (.string ⟨xn.toArray⟩) ∧ w'.cell? ⟨V.heap.size, 2, none⟩ = some (.string ⟨xv.toArray⟩)) (go_keep) (first | (go_at_call 34; refine (hval.out _ (hU.out _ (below_drewN (n := 1) hUU.out)).2.2.2.out.2.2).mono ?_; rintro e w5 ⟨rfl, b5⟩; have B5 := hid (low' (below_drewN (n := 1) hUU.out) b5); obtain ⟨j0, j1, j2, j3⟩ := hU.out w5 B5.out; clear b5) | (go_at_fn k; refine (hask'.out _).mono ?_; rintro e w6 ⟨rfl, rfl⟩))
          go_wp2
          exact ⟨⟨j + 1, by omega, by go_num, e, j3.out.1, j3.out.2.1⟩, by simp [intOf]; omega⟩
      · obtain ⟨hf, hask⟩ := ask_none ho
        rw [hf] at hQ1
        have e := hno.out (hask _ _)
        have heq := eq_nil
        have hlow := hid (hU.out _ (Below.refl _ _)).2.2.2.out.2.1
        clear hyes hno hask hf ho hQ hB hU
        go_wp2
        go_quiet (fail)
        go_wp2
        go_ret
        exact ⟨ret_bool e.out, below_drewN hlow.out⟩
    · have hlt' : ¬ (j : Int) < (m.length : Int) := by omega
      obtain rfl : j = m.length := by omega
      have e : Hid (true = doesM m l) := by
        unfold Hid doesM
        symm
        rw [List.all_eq_true]
        intro x hx
        obtain ⟨i, hi⟩ := List.mem_iff_getElem?.1 hx
        exact hp.out i x (List.getElem?_eq_some_iff.1 hi).1 hi
      clear hp
      go_wp2
      go_ret
      exact ⟨ret_bool e.out, hB.out⟩
end Go.Proofs.Ythbdghbfhjimkaa
