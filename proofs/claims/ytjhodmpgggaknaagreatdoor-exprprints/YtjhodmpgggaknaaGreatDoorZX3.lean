import Derived.Test.YtjhodmpgggaknaaGreatDoorZX1
import Derived.Test.YtjhodmpgggaknaaGreatDoorZGK
import Derived.Deep.RegionHeld3
/- Contract of the document's Print. -/
namespace Go.Proofs.YtjhodmpgggaknaaGreatDoor.Mat
open Go.RowKit Go.Shelf

theorem joinM_take (l : List Mt) {j : Nat} {x : Mt} (hx : l[j]? = some x) : Lib.join ((l.take (j + 1)).map itemM) [44] = (if 0 < j then Lib.join ((l.take j).map itemM) [44] ++ [44] else []) ++ itemM x := by
  obtain ⟨hj, rfl⟩ := List.getElem?_eq_some_iff.1 hx
  cases l with
  | nil => simp at hj
  | cons y r =>
    cases j with
    | zero => simp [Lib.join_one]
    | succ j =>
      rw [if_pos (by omega), List.take_succ_cons, List.take_succ_cons, List.map_cons, List.map_cons, Lib.join_cons, Lib.join_cons]
      rw [List.take_succ_eq_append_getElem (by simpa using hj), List.map_append, Lib.joinTail, Lib.joinTail, List.map_append, List.flatten_append]
      simp
theorem joinM_le (l : List Mt) (j : Nat) : (Lib.join ((l.take j).map itemM) [44]).length ≤ (Lib.join (l.map itemM) [44]).length := by
  cases l with
  | nil => simp
  | cons y r =>
    cases j with
    | zero => simp [Lib.join]
    | succ j =>
      rw [List.take_succ_cons, List.map_cons, List.map_cons, Lib.join_cons, Lib.join_cons, List.length_append, List.length_append, List.map_take]
      have := Lib.joinTail_take_le [44] (r.map itemM) j
      omega
set_option maxRecDepth 100000 in
set_option maxHeartbeats 4000000 in
theorem rprint_any (v : Value) (m : List Mt) (w : World) (h : IsMs w v m) (hp : (printM m).length ≤ 35184372088832) : Calls Tryz.prog 28 #[v] w fun e w' => e = .returned (str (printM m)) ∧ ∃ n, w' = w.drewN n := by
  obtain ⟨a, c, rfl⟩ := h.slice
  obtain ⟨-, hb⟩ := h.bound
  replace h := hid h
  rw [printM_len] at hp
  go_enter Tryz.func28, Tryz.ntmps28
  go_wp2
  go_loopw [3, 4] (fun sv iv wr => ∃ (j q : Nat) (z : Tx), j ≤ m.length ∧ iv = .int .i64 (j : Int) ∧ sv = .string ⟨z.toArray⟩ ∧ Hid (z = 123 :: Lib.join ((m.take j).map itemM) [44]) ∧ wr = w.drewN q) (fun _ iv _ => m.length - (intOf iv).toNat)
  case atStart => exact ⟨0, 0, [123], by omega, rfl, rfl, rfl, rfl⟩
  case round =>
    obtain ⟨j, q, z, hj, rfl, rfl, hz, rfl⟩ := hrel
    have hzl : z.length ≤ 35184372088833 := by
      have := joinM_le m j
      rw [hz.out, List.length_cons]
      omega
    by_cases hlt : j < m.length
    · have hlt' : (j : Int) < (m.length : Int) := by omega
      obtain ⟨b, off, rfl, hc⟩ := h.out.at hlt
      obtain ⟨⟨xn, xo, xv⟩, hx⟩ : ∃ x, m[j]? = some x := ⟨_, List.getElem?_eq_getElem hlt⟩
      obtain ⟨c0, c1, c2⟩ := hc j _ hx
      have hit := itemM_in m (List.mem_of_getElem? hx)
      have hil := (itemM_len (xn, xo, xv)).1
      have hjt := joinM_take m hx
      simp only at c0 c1 c2 hil
      have hq := hid (fun w => rquote_any xv w (by omega))
      have hsg := hid (rsign_any xo)
      have hxnl : xn.length ≤ 35184372088832 := by omega
      have hql : (quote xv).length ≤ 70368744177666 := by have := quote_len xv; omega
      have hsl := (opS_len xo).2
      unfold str opv at *
      generalize hso : opS xo = so at *
      by_cases hj0 : 0 < j
      · have d1 : decide (0 < (j : Int)) = true := by simp; omega
        have d2 : decide (0 < j) = true := by simp; omega
        have hz' : Hid (z ++ [44] ++ xn ++ so ++ quote xv = 123 :: Lib.join ((m.take (j + 1)).map itemM) [44]) := by
          unfold Hid
          rw [hjt, if_pos hj0, hz.out]
          simp [itemM, hso]
        have hs : Hid ((⟨z.toArray⟩ : ByteArray) ++ ⟨#[44]⟩ ++ ⟨xn.toArray⟩ ++ ⟨so.toArray⟩ ++ ⟨(quote xv).toArray⟩ = ⟨(z ++ [44] ++ xn ++ so ++ quote xv).toArray⟩) := by
          unfold Hid
          rw [show (⟨#[44]⟩ : ByteArray) = ⟨([44] : Tx).toArray⟩ from rfl, app_str, app_str, app_str, app_str]
        have k1 : (9223372036854775807 < z.length + 1 + xn.length) = False := eq_false (by omega)
        have k2 : (9223372036854775807 < z.length + 1 + xn.length + so.length) = False := eq_false (by omega)
        have k3 : (9223372036854775807 < z.length + 1 + xn.length + so.length + (quote xv).length) = False := eq_false (by omega)
        clear hz hjt hit hil hc hx hj0 hso
        go_wp2_with fail
        go_region_held3 (fun w' => w'.cell? ⟨b, off + j * 3, none⟩ = some (.string ⟨xn.toArray⟩) ∧ w'.cell? ⟨b, off + j * 3 + 1, none⟩ = some (.int .u8 (xo.toNat : Int)) ∧ w'.cell? ⟨b, off + j * 3 + 2, none⟩ = some (.string ⟨xv.toArray⟩)) (go_keep) (first | (go_at_call 47; refine (hsg.out _).mono ?_; rintro e w' ⟨rfl, rfl⟩) | (go_at_call 48; refine (hq.out _).mono ?_; rintro e w' ⟨rfl, rfl⟩))
        all_goals go_wp2
        all_goals exact ⟨⟨j + 1, q + 1, _, by omega, by go_num, congrArg Value.string hs.out, hz', rfl⟩, by simp [intOf]; omega⟩
      · have d1 : decide (0 < (j : Int)) = false := by simp; omega
        have d2 : decide (0 < j) = false := by simp; omega
        have hz' : Hid (z ++ xn ++ so ++ quote xv = 123 :: Lib.join ((m.take (j + 1)).map itemM) [44]) := by
          unfold Hid
          rw [hjt, if_neg hj0, hz.out, show j = 0 by omega]
          simp [itemM, Lib.join, hso]
        have hs : Hid ((⟨z.toArray⟩ : ByteArray) ++ ⟨xn.toArray⟩ ++ ⟨so.toArray⟩ ++ ⟨(quote xv).toArray⟩ = ⟨(z ++ xn ++ so ++ quote xv).toArray⟩) := by
          unfold Hid
          rw [app_str, app_str, app_str]
        have k1 : (9223372036854775807 < z.length + xn.length) = False := eq_false (by omega)
        have k2 : (9223372036854775807 < z.length + xn.length + so.length) = False := eq_false (by omega)
        have k3 : (9223372036854775807 < z.length + xn.length + so.length + (quote xv).length) = False := eq_false (by omega)
        clear hz hjt hit hil hc hx hj0 hso
        go_wp2_with fail
        go_region_held3 (fun w' => w'.cell? ⟨b, off + j * 3, none⟩ = some (.string ⟨xn.toArray⟩) ∧ w'.cell? ⟨b, off + j * 3 + 1, none⟩ = some (.int .u8 (xo.toNat : Int)) ∧ w'.cell? ⟨b, off + j * 3 + 2, none⟩ = some (.string ⟨xv.toArray⟩)) (go_keep) (first | (go_at_call 47; refine (hsg.out _).mono ?_; rintro e w' ⟨rfl, rfl⟩) | (go_at_call 48; refine (hq.out _).mono ?_; rintro e w' ⟨rfl, rfl⟩))
        all_goals go_wp2
        all_goals exact ⟨⟨j + 1, q + 1, _, by omega, by go_num, congrArg Value.string hs.out, hz', rfl⟩, by simp [intOf]; omega⟩
    · have hlt' : ¬ (j : Int) < (m.length : Int) := by omega
      obtain rfl : j = m.length := by omega
      have hnew : Hid (Value.string (⟨z.toArray⟩ ++ ⟨#[125]⟩) = .string ⟨(printM m).toArray⟩) := by
        unfold Hid
        rw [show (⟨#[125]⟩ : ByteArray) = ⟨([125] : Tx).toArray⟩ from rfl, app_str, hz.out, List.take_length]
        simp [printM]
      clear hz
      go_wp2
      go_ret
      exact ⟨congrArg Ending.returned hnew.out, q, rfl⟩
end Go.Proofs.YtjhodmpgggaknaaGreatDoor.Mat
