/- The document's Parse. -/
import Derived.Test.YtjhodmpgggaknaaGreatDoorZHB
import Derived.Test.YtjhodmpgggaknaaGreatDoorZD5
import Derived.Test.YtjhodmpgggaknaaGreatDoorZGN
namespace Go.Proofs.YtjhodmpgggaknaaGreatDoor
open Go.RowKit Go.Shelf Go.Maps

theorem refAll_long (s : Tx) (h : 4096 < s.length) (w : World) : Calls Tryz.prog 19 #[.string ⟨s.toArray⟩] w fun e w' => e = .returned (.tuple #[.slice none 0 0, .int .i64 0, .int .i64 3]) ∧ w' = w := by
  have h' : (4096 : Int) < (s.length : Int) := by omega
  go_enter Tryz.func19, Tryz.ntmps19
  go_wp2
  go_ret3
  exact ⟨rfl, rfl⟩
/-- what a condition tells of what is read from there on. -/
theorem rowD_out {l : List Tk} {i base : Nat} {w w' : World} {e : Ending} (h : RowD l .or i base w e w') : ∃ a n c nx ns, e = .returned (.tuple #[.slice a n c, .int .i64 nx]) ∧ OwnN w.heap.size w' (.slice a n c) ns ∧ n = ns.length ∧ ns.length ≤ l.length + 1 ∧ Below w.heap.size w w' ∧ ((nx = -1 ∧ outP (kat l i) = ([], [], 100)) ∨ ∃ t j : Nat, ∃ u : Tree, nx = (j : Int) ∧ i < j ∧ j ≤ l.length ∧ ns = flat base u ∧ t = u.size ∧ ns.length = t ∧ outP (kat l i) = if t ≤ 31 then (flat 0 u, kat l j, 0) else ([], kat l j, 4)) := by
  obtain ⟨hb, ⟨g1, vn, ms, rfl, g2, g3⟩ | ⟨u, j, vn, g1, g2, g3, g4, rfl, g5⟩⟩ := h
  · obtain ⟨a, c, rfl⟩ := g2.slice
    exact ⟨a, _, c, _, ms, rfl, g2, rfl, by omega, hb, .inl ⟨rfl, by unfold outP; rw [g1]⟩⟩
  · obtain ⟨a, c, rfl⟩ := g5.slice
    refine ⟨a, _, c, _, _, rfl, g5, rfl, by rw [flat_len]; omega, hb, .inr ⟨u.size, j, u, rfl, g2, g3, rfl, rfl, flat_len u base, ?_⟩⟩
    unfold outP
    rw [g1]
set_option maxRecDepth 100000 in
set_option maxHeartbeats 2000000 in
theorem rParse_any {w : World} (s : Tx) :
    Calls Tryz.prog 9 #[str s] w fun e w' => ∃ vn, e = .returned (.tuple #[vn, .int .i64 (parseR s).2]) ∧ OwnN w.heap.size w' vn (parseR s).1 ∧ Below w.heap.size w w' := by
  by_cases h1 : 4096 < s.length
  · have hr : Hid (parseR s = ([], 3)) := by show _ = _; unfold parseR; rw [if_pos h1]
    have hal := hid (refAll_long s h1 w)
    rw [hr.out]
    clear h1 hr
    unfold str at *
    go_enter Tryz.func9, Tryz.ntmps9
    go_wp2_with fail
    refine hal.out.mono ?_
    rintro e w1 ⟨rfl, hw⟩
    obtain rfl := hw.symm
    go_wp2
    go_ret2
    exact ⟨_, rfl, ownN_nil _ _, Below.refl _ _⟩
  · have hal := hid (refAll_any s (tksOf s) (badOf s) (tks_scan s) (by omega) w)
    have hsl : s.length ≤ 4096 := by omega
    cases h2 : badOf s with
    | some p =>
      have hr : Hid (parseR s = ([], 90)) := by show _ = _; unfold parseR; rw [if_neg h1, if_pos (by rw [h2]; simp)]
      rw [hr.out]
      rw [h2] at hal
      clear h1 hr h2
      unfold str at *
      go_enter Tryz.func9, Tryz.ntmps9
      go_wp2_with fail
      refine hal.out.mono ?_
      rintro e w1 ⟨hb, ⟨q, hq, rfl⟩ | ⟨hq, -⟩⟩
      · have B1 := hid hb
        clear hb hal hq
        go_wp2
        go_ret2
        exact ⟨_, rfl, ownN_nil _ _, B1.out⟩
      · cases hq
    | none =>
      have hsc : Scan 0 s (tksOf s) none := h2 ▸ tks_scan s
      have hr : Hid (parseR s = if (outP (keysT (tksOf s))).2.1 ≠ [] then ([], 100) else if (outP (keysT (tksOf s))).2.2 = 0 then ((outP (keysT (tksOf s))).1, 0) else ([], (outP (keysT (tksOf s))).2.2)) := by
        show _ = _; unfold parseR; rw [if_neg h1, if_neg (by rw [h2]; simp)]
      rw [h2] at hal
      have hm := scan_mem hsc
      have hl4 : (tksOf s).length ≤ 4096 := by have := hm.1; omega
      have hcond := hid (fun (W : World) (v : Value) (hv : IsDs W v (tksOf s)) => cond_any hv (by omega) (fun t ht => by have := (hm.2.1 t ht).1; omega) 0 0 (by omega) (by omega))
      clear h1 h2 hsc hm hsl
      rw [show keysT (tksOf s) = kat (tksOf s) 0 from rfl] at hr
      generalize parseR s = pr at *
      generalize tksOf s = l at *
      unfold str at *
      go_enter Tryz.func9, Tryz.ntmps9
      go_wp2_with fail
      refine hal.out.mono ?_
      rintro e w1 ⟨hb, ⟨q, hq, -⟩ | ⟨-, a, c, rfl, ho⟩⟩
      · cases hq
      · have B1 := hid hb
        have cC := hid (hcond.out _ _ ho.isD)
        clear hb hal ho hcond
        go_wp2_with fail
        refine cC.out.mono ?_
        intro e w2 hrd
        obtain ⟨na, n, nc, nx, ns, rfl, hO, rfl, hn, hb2, hcase⟩ := rowD_out hrd
        have B2 := hid (low' B1.out hb2)
        have hO2 := hid (hO.base B1.out.size)
        clear hrd hO hb2 cC
        rcases hcase with ⟨rfl, ho⟩ | ⟨t, j, u, rfl, hj1, hj2, hns, htu, hnt, ho⟩
        · have q : ((-1 : Int) != (l.length : Int)) = true := by rw [bne_iff_ne]; omega
          have hfin : Hid (∃ vn, Ending.returned (.tuple #[.slice none 0 0, .int .i64 100]) = Ending.returned (.tuple #[vn, .int .i64 pr.2]) ∧ OwnN w.heap.size w2 vn pr.1 ∧ Below w.heap.size w w2) := by
            show ∃ _, _
            rw [hr.out, ho]
            exact ⟨_, rfl, ownN_nil _ _, B2.out⟩
          clear ho hr hO2
          go_wp2
          go_ret2
          exact hfin.out
        · by_cases hjl : j = l.length
          · have hk : kat l j = [] := kat_end (by omega)
            rw [hk] at ho
            have q : ((j : Int) != (l.length : Int)) = false := by simp [hjl]
            by_cases ht : t ≤ 31
            · rw [if_pos ht] at ho
              have q2 : decide ((31 : Int) < (ns.length : Int)) = false := decide_eq_false (by omega)
              have hfin : Hid (∃ vn, Ending.returned (.tuple #[.slice na ns.length nc, .int .i64 0]) = Ending.returned (.tuple #[vn, .int .i64 pr.2]) ∧ OwnN w.heap.size w2 vn pr.1 ∧ Below w.heap.size w w2) := by
                show ∃ _, _
                rw [hr.out, ho]
                exact ⟨_, rfl, by show OwnN _ _ _ (flat 0 u); rw [← hns]; exact hO2.out, B2.out⟩
              clear ho hk hns htu hnt hjl hO2 hr
              go_wp2
              go_ret2
              exact hfin.out
            · rw [if_neg ht] at ho
              have q2 : decide ((31 : Int) < (ns.length : Int)) = true := decide_eq_true (by omega)
              have hfin : Hid (∃ vn, Ending.returned (.tuple #[.slice none 0 0, .int .i64 4]) = Ending.returned (.tuple #[vn, .int .i64 pr.2]) ∧ OwnN w.heap.size w2 vn pr.1 ∧ Below w.heap.size w w2) := by
                show ∃ _, _
                rw [hr.out, ho]
                exact ⟨_, rfl, ownN_nil _ _, B2.out⟩
              clear ho hk hns htu hnt hjl hO2 hr
              go_wp2
              go_ret2
              exact hfin.out
          · have q : ((j : Int) != (l.length : Int)) = true := by rw [bne_iff_ne]; omega
            have hne : (outP (kat l 0)).2.1 ≠ [] := by
              rw [ho]
              have : kat l j ≠ [] := fun e => by
                have := congrArg List.length e
                rw [kat_len] at this
                simp at this
                omega
              split <;> exact this
            have hfin : Hid (∃ vn, Ending.returned (.tuple #[.slice none 0 0, .int .i64 100]) = Ending.returned (.tuple #[vn, .int .i64 pr.2]) ∧ OwnN w.heap.size w2 vn pr.1 ∧ Below w.heap.size w w2) := by
              show ∃ _, _
              rw [hr.out, if_pos hne]
              exact ⟨_, rfl, ownN_nil _ _, B2.out⟩
            clear ho hne hns htu hnt hjl hO2 hr
            go_wp2
            go_ret2
            exact hfin.out
end Go.Proofs.YtjhodmpgggaknaaGreatDoor
