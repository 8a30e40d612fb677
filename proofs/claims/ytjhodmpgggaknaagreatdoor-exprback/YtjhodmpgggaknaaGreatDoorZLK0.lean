/- What is written of a condition is read as that condition; a text that is too long. -/
import Derived.Test.YtjhodmpgggaknaaGreatDoorZHK
import Derived.Test.YtjhodmpgggaknaaGreatDoorZGQ
import Derived.Test.YtjhodmpgggaknaaGreatDoorZSM
namespace Go.Proofs.YtjhodmpgggaknaaGreatDoor
open Go.ChangeShapes Go.WideShapes Go.ChangeAt Go.RowKit Go.Shelf Go.Maps
open Go.ChangeMaps (open_string shut_string)
namespace Back
theorem print_keys {t : Tree} (h : okT t) : HasK (ptx 0 t) (pks 0 t) := fun p => print_scan h 0 p
theorem print_par {t : Tree} (h : okT t) (hs : t.size ≤ 31) (hl : (ptx 0 t).length ≤ 4096) : parseR (ptx 0 t) = (flat 0 t, 0) := by
  rw [par_mk (print_keys h) hl (back_whole h), if_pos hs]
theorem print_ne {t : Tree} (h : okT t) : ptx 0 t ≠ [] := fun e => by
  have h1 := print_keys h
  rw [e] at h1
  obtain ⟨m, a1, a2⟩ := h1 0
  obtain ⟨n, b1, b2⟩ := hasK_nil 0
  have e1 := (scan_uniq a1 b1).1
  rw [e1, b2] at a2
  have := back_whole h
  rw [← a2] at this
  cases this
theorem par_good {s : Tx} (h : (parseR s).2 = 0) : ∃ t, okT t ∧ t.size ≤ 31 ∧ parseR s = (flat 0 t, 0) := by
  obtain ⟨_, ks, t, _, h2, h3, h4⟩ := par_inv h
  exact ⟨t, pE_ok (v := .or) trivial h2, h3, h4⟩
set_option maxRecDepth 100000 in
set_option maxHeartbeats 1000000 in
theorem walk_long (v : Value) (ns : List Nd) (s : Tx) (w : World) (hE : Env w) (h : IsN w v ns) (hs : 4000 < s.length) : Calls Tryz.prog 6 #[v, str s] w fun e w' => e = .returned (.bool true) ∧ Below w.heap.size w w' := by
  have cA := hid (awake_any w hE)
  have hN := hid h
  obtain ⟨a, c, rfl⟩ := h.slice
  have q1 : decide ((4000 : Int) < (s.length : Int)) = true := decide_eq_true (by omega)
  clear h hE hs
  unfold str
  go_enter Tryz.func6, Tryz.ntmps6
  go_wp2_with fail
  refine cA.out.mono ?_
  rintro e w1 ⟨rfl, b1⟩
  have B1 := hid b1
  have cG := hid (great_any (hN.out.below b1))
  clear cA b1
  go_wp2_with fail
  refine cG.out.mono ?_
  rintro e w2 ⟨g, rfl, b2, -⟩
  have B2 := hid (low2 B1.out b2)
  clear cG b2 B1 hN
  cases g
  · go_wp2
    go_ret
    exact ⟨rfl, B2.out⟩
  · go_wp2
    go_ret
    exact ⟨rfl, B2.out⟩
end Back
end Go.Proofs.YtjhodmpgggaknaaGreatDoor
