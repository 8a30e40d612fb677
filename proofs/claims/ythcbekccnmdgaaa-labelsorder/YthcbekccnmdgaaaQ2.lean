/- Contract of Print. -/
import Derived.Test.YthcbekccnmdgaaaQ1
import Derived.Test.YthcbekccnmdgaaaShelf
import Derived.Deep.RegionHeld3
import Derived.Deep.RegionWith
import Derived.Deep.OwnRows
namespace Go.Proofs.Ythcbekccnmdgaaa
open Go.RowKit Go.Shelf

theorem item_in : ∀ (l : List Lb) {x : Lb}, x ∈ l → (item x).length ≤ (Lib.join (l.map item) [44]).length
  | [], _, h => by cases h
  | y :: r, x, h => by
    rw [List.map_cons, Lib.join_cons, List.length_append]
    rcases List.mem_cons.1 h with rfl | h
    · omega
    · cases r with
      | nil => cases h
      | cons z r =>
        have := item_in (z :: r) h
        rw [List.map_cons, Lib.join_cons, List.length_append] at this
        simp [Lib.joinTail] at this ⊢
        omega
theorem printL_len (l : List Lb) : (printL l).length = (Lib.join (l.map item) [44]).length + 2 := by
  unfold printL
  simp
theorem strInfo : (Try.prog.info? 9).map (fun i => (i.zero, i.size, i.bytes)) = some (some (.string ⟨#[]⟩), 1, 16) := by kernel_rfl
/-- the texts, so many of which are laid. -/
def texts (l : List Lb) (j i : Nat) : Value := if i < j then str (item (l.getD i ([], []))) else str []
theorem join_any (l : List Lb) (b : Nat) (w : World) (hr : w.rowIs b 9 l.length (texts l l.length)) (hl : l.length ≤ 4000000) (hp : (Lib.join (l.map item) [44]).length ≤ 35184372088832) :
    Calls Try.prog 29 #[.slice (some ⟨b, 0, none⟩) l.length l.length, .string ⟨#[44]⟩] w fun e w' => e = .returned (str (Lib.join (l.map item) [44])) ∧ Below w.heap.size w w' := by
  have hmap : (l.map fun x => (⟨(item x).toArray⟩ : ByteArray)).map (fun x => x.data.toList) = l.map item := by simp
  have := Try.strings_Join b 0 l.length (l.map fun x => (⟨(item x).toArray⟩ : ByteArray)) ⟨#[44]⟩ w (fun j x hx => by
    rw [List.getElem?_map] at hx
    cases hy : l[j]? with
    | none => rw [hy] at hx; cases hx
    | some y =>
      rw [hy] at hx
      cases hx
      have hj : j < l.length := (List.getElem?_eq_some_iff.1 hy).1
      rw [Nat.zero_add, hr.cell hj]
      unfold texts
      rw [if_pos hj]
      simp [List.getD, hy, str]) hr.lt (by simp; omega) (by simp) (by rw [hmap]; show (Lib.join (l.map item) [44]).length ≤ _; omega)
  rw [hmap, List.length_map] at this
  exact this
set_option maxHeartbeats 4000000 in
theorem print_any (v : Value) (l : List Lb) (w : World) (h : IsLs w v l) (hl : l.length ≤ 4000000) (hp : (printL l).length ≤ 35184372088832) : Calls Try.prog 13 #[v] w fun e w' => e = .returned (str (printL l)) ∧ Below w.heap.size w w' := by
  obtain ⟨a, c, rfl⟩ := h.slice
  have hb := h.bound
  replace h := hid h
  rw [printL_len] at hp
  have hmk := run_make_row' (P := Try.prog) 41 9 (.string ⟨#[]⟩) 16 Try.underlying41 strInfo rfl .i64 .i64 l.length (by omega) (by omega) w
  have hrow : Hid ((w.alloc (.cells (madeCells #[.string ⟨#[]⟩] l.length) 9)).rowIs w.heap.size 9 l.length (texts l 0)) := (World.rowIs_made w (.string ⟨#[]⟩) l.length 9).congr fun i hi => by unfold texts; rw [if_neg (by omega)]; rfl
  have hlow : Hid (Below w.heap.size w (w.alloc (.cells (madeCells #[.string ⟨#[]⟩] l.length) 9))) := alloc_below _ _
  go_enter Try.func13, Try.ntmps13
  go_wp2
  generalize w.alloc (.cells (madeCells #[.string ⟨#[]⟩] l.length) 9) = w1 at *
  clear hmk
  go_loopw [11] (fun iv wr => ∃ j : Nat, j ≤ l.length ∧ iv = .int .i64 (j : Int) ∧ Hid (wr.rowIs w.heap.size 9 l.length (texts l j)) ∧ Hid (Below w.heap.size w wr)) (fun iv _ => l.length - (intOf iv).toNat)
  case atStart => exact ⟨0, by omega, rfl, hrow, hlow⟩
  case round =>
    obtain ⟨j, hj, rfl, hr, hB⟩ := hrel
    clear hrow hlow
    obtain ⟨V, rfl⟩ : ∃ V : World, V = wr := ⟨_, rfl⟩
    by_cases hlt : j < l.length
    · have hlt' : (j : Int) < (l.length : Int) := by omega
      obtain ⟨b, off, rfl, hc⟩ := (h.out.below hB.out).at hlt
      obtain ⟨⟨xn, xv⟩, hx⟩ : ∃ x, l[j]? = some x := ⟨_, List.getElem?_eq_getElem hlt⟩
      obtain ⟨c0, c1⟩ := hc j _ hx
      have hbl := World.block_lt_of_cell? V _ c0
      have hit := item_in l (List.mem_of_getElem? hx)
      have hil := (item_len (xn, xv)).1
      simp only at c0 c1 hbl hil
      have hq := hid (fun w => quote_any xv w (by omega))
      have hxnl : xn.length ≤ 35184372088832 := by omega
      have hql : (quote xv).length ≤ 70368744177666 := by have := quote_len xv; omega
      have hU : ∀ W, Below (V.alloc (.cells #[.string ⟨xn.toArray⟩, .string ⟨xv.toArray⟩] 37)).heap.size (V.alloc (.cells #[.string ⟨xn.toArray⟩, .string ⟨xv.toArray⟩] 37)) W →
          W.cell? ⟨V.heap.size, 0, none⟩ = some (.string ⟨xn.toArray⟩) ∧ W.cell? ⟨V.heap.size, 1, none⟩ = some (.string ⟨xv.toArray⟩) ∧ W.cell? ⟨w.heap.size, j, none⟩ = some (.string ⟨#[]⟩) ∧ W.frozen? ⟨w.heap.size, j, none⟩ = false ∧
          Hid ((W.setCell ⟨w.heap.size, j, none⟩ (.string ((⟨xn.toArray⟩ : ByteArray) ++ ⟨#[61]⟩ ++ ⟨(quote xv).toArray⟩))).rowIs w.heap.size 9 l.length (texts l (j + 1)) ∧ Below w.heap.size w (W.setCell ⟨w.heap.size, j, none⟩ (.string ((⟨xn.toArray⟩ : ByteArray) ++ ⟨#[61]⟩ ++ ⟨(quote xv).toArray⟩)))) := fun W hW => by
        have hnb := new_block V (.cells #[.string ⟨xn.toArray⟩, .string ⟨xv.toArray⟩] 37)
        have hnb' := (hW.block V.heap.size (by simp)).trans hnb
        have hrW := (hr.out.of_block ((alloc_below V (.cells #[.string ⟨xn.toArray⟩, .string ⟨xv.toArray⟩] 37)).block _ hr.out.lt)).of_block (hW.block _ (by have := hr.out.lt; simp; omega))
        refine ⟨by rw [cell_of hnb']; rfl, by rw [cell_of hnb']; rfl, ?_, hrW.frozen j, ?_, ?_⟩
        · rw [hrW.cell hlt]
          unfold texts
          rw [if_neg (by omega)]
          rfl
        · refine (hrW.set j _).congr fun i hi => ?_
          unfold texts
          by_cases e : i = j
          · subst e
            rw [if_pos rfl, if_pos (by omega)]
            rw [show (⟨#[61]⟩ : ByteArray) = ⟨([61] : Tx).toArray⟩ from rfl, app_str, app_str]
            simp [List.getD, hx, str, item]
          · rw [if_neg e]
            by_cases e2 : i < j
            · rw [if_pos e2, if_pos (by omega)]
            · rw [if_neg e2, if_neg (by omega)]
        · have hbW := low' (low' hB.out (alloc_below V (.cells #[.string ⟨xn.toArray⟩, .string ⟨xv.toArray⟩] 37))) hW
          exact hbW.trans ⟨rfl, rfl, rfl, by rw [size_set]; exact Nat.le_refl _, fun k hk => heap_set _ _ _ _ _ (by omega)⟩
      clear hr hc hx hit hil
      have hbs := hB.out.size
      replace hU := hid hU
      unfold str at *
      go_wp2_with fail
      generalize hgU : V.alloc (.cells #[.string ⟨xn.toArray⟩, .string ⟨xv.toArray⟩] 37) = U at *
      clear hgU
      have hUU : Hid (Below U.heap.size U U) := Below.refl _ _
      obtain ⟨g0, g1, g2, g3, g4⟩ := hU.out U hUU.out
      clear g4
      go_region_with (go_at_call 21; refine (hq.out _).mono ?_; rintro e w' ⟨rfl, b8⟩; have B8 := low' (below_drewN (n := 1) hUU.out) b8; obtain ⟨j0, j1, j2, j3, j4⟩ := hU.out w' B8; clear b8 B8)
      all_goals go_wp2
      all_goals exact ⟨⟨j + 1, by omega, by go_num, j4.out.1, j4.out.2⟩, by simp [intOf]; omega⟩
    · have hlt' : ¬ (j : Int) < (l.length : Int) := by omega
      obtain rfl : j = l.length := by omega
      have hj := hid (join_any l _ V hr.out hl (by omega))
      have hlj : (Lib.join (l.map item) [44]).length ≤ 35184372088830 := by omega
      have e : Hid ((⟨#[123]⟩ : ByteArray) ++ ⟨(Lib.join (l.map item) [44]).toArray⟩ ++ ⟨#[125]⟩ = ⟨(printL l).toArray⟩) := by
        unfold Hid
        rw [show (⟨#[123]⟩ : ByteArray) = ⟨([123] : Tx).toArray⟩ from rfl, show (⟨#[125]⟩ : ByteArray) = ⟨([125] : Tx).toArray⟩ from rfl, app_str, app_str]
        simp [printL]
      clear hr
      generalize Lib.join (l.map item) [44] = z at *
      unfold str at *
      go_wp2_with (go_at_call 29; refine hj.out.mono ?_; rintro e w' ⟨rfl, b8⟩; replace b8 := hid b8)
      go_ret
      rw [e.out]
      exact ⟨rfl, low' hB.out b8.out⟩
end Go.Proofs.Ythcbekccnmdgaaa
