/- Contract of Print. -/
import Derived.Test.YthbdghbfhjimkaaU3
import Derived.Deep.OwnRows
import Derived.Deep.RegionHeld3
namespace Go.Proofs.Ythbdghbfhjimkaa
open Go.RowKit Go.Shelf Go.Maps

theorem itemM_in : ∀ (l : List Mt) {x : Mt}, x ∈ l → (itemM x).length ≤ (Lib.join (l.map itemM) [44]).length
  | [], _, h => by cases h
  | y :: r, x, h => by
    rw [List.map_cons, Lib.join_cons, List.length_append]
    rcases List.mem_cons.1 h with rfl | h
    · omega
    · cases r with
      | nil => cases h
      | cons z r =>
        have := itemM_in (z :: r) h
        rw [List.map_cons, Lib.join_cons, List.length_append] at this
        simp [Lib.joinTail] at this ⊢
        omega
theorem printM_len (l : List Mt) : (printM l).length = (Lib.join (l.map itemM) [44]).length + 2 := by
  unfold printM
  simp
theorem strInfo : (Try.prog.info? 9).map (fun i => (i.zero, i.size, i.bytes)) = some (some (.string ⟨#[]⟩), 1, 16) := by kernel_rfl
/-- the texts, so many of which are laid. -/
def textsM (l : List Mt) (j i : Nat) : Value := if i < j then str (itemM (l.getD i ([], 0, []))) else str []
theorem joinM_any (l : List Mt) (b : Nat) (w : World) (hr : w.rowIs b 9 l.length (textsM l l.length)) (hl : l.length ≤ 3000000) (hp : (Lib.join (l.map itemM) [44]).length ≤ 35184372088832) :
    Calls Try.prog 31 #[.slice (some ⟨b, 0, none⟩) l.length l.length, .string ⟨#[44]⟩] w fun e w' => e = .returned (str (Lib.join (l.map itemM) [44])) ∧ Below w.heap.size w w' := by
  have hmap : (l.map fun x => (⟨(itemM x).toArray⟩ : ByteArray)).map (fun x => x.data.toList) = l.map itemM := by simp
  have := Try.strings_Join b 0 l.length (l.map fun x => (⟨(itemM x).toArray⟩ : ByteArray)) ⟨#[44]⟩ w (fun j x hx => by
    rw [List.getElem?_map] at hx
    cases hy : l[j]? with
    | none => rw [hy] at hx; cases hx
    | some y =>
      rw [hy] at hx
      cases hx
      have hj : j < l.length := (List.getElem?_eq_some_iff.1 hy).1
      rw [Nat.zero_add, hr.cell hj]
      unfold textsM
      rw [if_pos hj]
      simp [List.getD, hy, str]) hr.lt (by simp; omega) (by simp) (by rw [hmap]; show (Lib.join (l.map itemM) [44]).length ≤ _; omega)
  rw [hmap, List.length_map] at this
  exact this
set_option maxRecDepth 100000 in
set_option maxHeartbeats 4000000 in
theorem mprint_any (v : Value) (l : List Mt) (w : World) (h : IsMs w v l) (hl : l.length ≤ 3000000) (hp : (printM l).length ≤ 35184372088832) : Calls Try.prog 14 #[v] w fun e w' => e = .returned (str (printM l)) ∧ Below w.heap.size w w' := by
  obtain ⟨a, c, rfl⟩ := h.slice
  obtain ⟨-, hb⟩ := h.bound
  replace h := hid h
  rw [printM_len] at hp
  have hmk := run_make_row' (P := Try.prog) 48 9 (.string ⟨#[]⟩) 16 Try.underlying48 strInfo rfl .i64 .i64 l.length (by omega) (by omega) w
  have hrow : Hid ((w.alloc (.cells (madeCells #[.string ⟨#[]⟩] l.length) 9)).rowIs w.heap.size 9 l.length (textsM l 0)) := (World.rowIs_made w (.string ⟨#[]⟩) l.length 9).congr fun i hi => by unfold textsM; rw [if_neg (by omega)]; rfl
  have hlow : Hid (Below w.heap.size w (w.alloc (.cells (madeCells #[.string ⟨#[]⟩] l.length) 9))) := alloc_below _ _
  go_enter Try.func14, Try.ntmps14
  go_wp2
  generalize w.alloc (.cells (madeCells #[.string ⟨#[]⟩] l.length) 9) = w1 at *
  clear hmk
  go_loopw [11] (fun iv wr => ∃ j : Nat, j ≤ l.length ∧ iv = .int .i64 (j : Int) ∧ Hid (wr.rowIs w.heap.size 9 l.length (textsM l j)) ∧ Hid (Below w.heap.size w wr)) (fun iv _ => l.length - (intOf iv).toNat)
  case atStart => exact ⟨0, by omega, rfl, hrow, hlow⟩
  case round =>
    obtain ⟨j, hj, rfl, hr, hB⟩ := hrel
    clear hrow hlow
    obtain ⟨V, rfl⟩ : ∃ V : World, V = wr := ⟨_, rfl⟩
    by_cases hlt : j < l.length
    · have hlt' : (j : Int) < (l.length : Int) := by omega
      obtain ⟨b, off, rfl, hc⟩ := (h.out.below hB.out).at hlt
      obtain ⟨⟨xn, xo, xv⟩, hx⟩ : ∃ x, l[j]? = some x := ⟨_, List.getElem?_eq_getElem hlt⟩
      obtain ⟨c0, c1, c2⟩ := hc j _ hx
      have hbl := World.block_lt_of_cell? V _ c0
      have hit := itemM_in l (List.mem_of_getElem? hx)
      have hil := (itemM_len (xn, xo, xv)).1
      simp only at c0 c1 c2 hbl hil
      have hq := hid (fun w => quote_any xv w (by omega))
      have hsg := hid (sign_any xo)
      have htn := hid (fun (W : World) (t : TypeId) => together_new xn (opS xo) (quote xv) W (by show (itemM (xn, xo, xv)).length ≤ _; omega) t)
      have hU : ∀ W, Below (V.alloc (.cells #[.string ⟨xn.toArray⟩, .int .u8 (xo.toNat : Int), .string ⟨xv.toArray⟩] 37)).heap.size (V.alloc (.cells #[.string ⟨xn.toArray⟩, .int .u8 (xo.toNat : Int), .string ⟨xv.toArray⟩] 37)) W →
          W.cell? ⟨V.heap.size, 0, none⟩ = some (.string ⟨xn.toArray⟩) ∧ W.cell? ⟨V.heap.size, 1, none⟩ = some (.int .u8 (xo.toNat : Int)) ∧ W.cell? ⟨V.heap.size, 2, none⟩ = some (.string ⟨xv.toArray⟩) ∧ W.cell? ⟨w.heap.size, j, none⟩ = some (.string ⟨#[]⟩) ∧ W.frozen? ⟨w.heap.size, j, none⟩ = false ∧
          Hid ((W.setCell ⟨w.heap.size, j, none⟩ (.string ⟨(xn ++ (opS xo ++ quote xv)).toArray⟩)).rowIs w.heap.size 9 l.length (textsM l (j + 1)) ∧ Below w.heap.size w (W.setCell ⟨w.heap.size, j, none⟩ (.string ⟨(xn ++ (opS xo ++ quote xv)).toArray⟩))) := fun W hW => by
        have hnb := new_block V (.cells #[.string ⟨xn.toArray⟩, .int .u8 (xo.toNat : Int), .string ⟨xv.toArray⟩] 37)
        have hnb' := (hW.block V.heap.size (by simp)).trans hnb
        have hrW := (hr.out.of_block ((alloc_below V (.cells #[.string ⟨xn.toArray⟩, .int .u8 (xo.toNat : Int), .string ⟨xv.toArray⟩] 37)).block _ hr.out.lt)).of_block (hW.block _ (by have := hr.out.lt; simp; omega))
        refine ⟨by rw [cell_of hnb']; rfl, by rw [cell_of hnb']; rfl, by rw [cell_of hnb']; rfl, ?_, hrW.frozen j, ?_, ?_⟩
        · rw [hrW.cell hlt]
          unfold textsM
          rw [if_neg (by omega)]
          rfl
        · refine (hrW.set j _).congr fun i hi => ?_
          unfold textsM
          by_cases e : i = j
          · subst e
            rw [if_pos rfl, if_pos (by omega)]
            simp [List.getD, hx, str, itemM]
          · rw [if_neg e]
            by_cases e2 : i < j
            · rw [if_pos e2, if_pos (by omega)]
            · rw [if_neg e2, if_neg (by omega)]
        · have hbW := low' (low' hB.out (alloc_below V (.cells #[.string ⟨xn.toArray⟩, .int .u8 (xo.toNat : Int), .string ⟨xv.toArray⟩] 37))) hW
          exact hbW.trans ⟨rfl, rfl, rfl, by rw [size_set]; exact Nat.le_refl _, fun k hk => heap_set _ _ _ _ _ (by omega)⟩
      have hne : ¬ V.heap.size = w.heap.size := by have := hr.out.lt; omega
      have hne2 : ¬ w.heap.size = V.heap.size := by have := hr.out.lt; omega
      clear hr hc hx hit hil
      have hbs := hB.out.size
      replace hU := hid hU
      unfold str opv at *
      go_wp2_with fail
      generalize hgU : V.alloc (.cells #[.string ⟨xn.toArray⟩, .int .u8 (xo.toNat : Int), .string ⟨xv.toArray⟩] 37) = U at *
      clear hgU
      have hUU : Hid (Below U.heap.size U U) := Below.refl _ _
      obtain ⟨g0, g1, g2, g3, g4, g5⟩ := hU.out U hUU.out
      clear g5
      generalize opS xo = so at *
      generalize quote xv = qv at *
      go_region_held3 (fun w' => w'.cell? ⟨V.heap.size, 0, none⟩ = some (.string ⟨xn.toArray⟩) ∧ w'.cell? ⟨V.heap.size, 1, none⟩ = some (.int .u8 (xo.toNat : Int)) ∧ w'.cell? ⟨V.heap.size, 2, none⟩ = some (.string ⟨xv.toArray⟩)) (go_keep) (first | (go_at_call 29; refine (hsg.out _).mono ?_; rintro e w4 ⟨rfl, rfl⟩) | (go_at_call 30; refine (hq.out _).mono ?_; rintro e w5 ⟨rfl, b5⟩; have B5 := hid (low' (below_drewN (n := 1) hUU.out) b5); obtain ⟨j0, j1, j2, j3, j4, j5⟩ := hU.out w5 B5.out; clear b5 j5) | (go_at_call 28; refine (htn.out _ _).mono ?_; rintro e w6 ⟨rfl, b6⟩; have B6 := hid (low' B5.out b6); obtain ⟨k0, k1, k2, k3, k4, k5⟩ := hU.out w6 B6.out; clear b6))
      go_wp2
      exact ⟨⟨j + 1, by omega, by go_num, k5.out.1, k5.out.2⟩, by simp [intOf]; omega⟩
    · have hlt' : ¬ (j : Int) < (l.length : Int) := by omega
      obtain rfl : j = l.length := by omega
      have hj := hid (joinM_any l _ V hr.out hl (by omega))
      have hlj : (Lib.join (l.map itemM) [44]).length ≤ 35184372088830 := by omega
      have e : Hid (([123] : Tx) ++ (Lib.join (l.map itemM) [44] ++ [125]) = printM l) := rfl
      have htn := hid (fun (W : World) (t : TypeId) => together_new [123] (Lib.join (l.map itemM) [44]) [125] W (by simp; omega) t)
      rw [e.out] at htn
      clear hr
      generalize Lib.join (l.map itemM) [44] = z at *
      unfold str at *
      go_wp2_with (first | (go_at_call 31; refine hj.out.mono ?_; rintro e w' ⟨rfl, b8⟩; replace b8 := hid (low' hB.out b8)) | (go_at_call 28; refine (htn.out _ _).mono ?_; rintro e w' ⟨rfl, b9⟩))
      go_ret
      exact ⟨rfl, low' b8.out b9⟩
end Go.Proofs.Ythbdghbfhjimkaa
