/- ExprBack, of right nodes with a long text. -/
import Derived.Test.YtjhodmpgggaknaaGreatDoorZLK0
namespace Go.Proofs.YtjhodmpgggaknaaGreatDoor
open Go.ChangeShapes Go.WideShapes Go.ChangeAt Go.RowKit Go.Shelf Go.Maps
open Go.ChangeMaps (open_string shut_string)
namespace Back
set_option maxRecDepth 100000 in
set_option maxHeartbeats 2000000 in
theorem walk_big (v : Value) (ns : List Nd) (s : Tx) (w : World) (hE : Env w) (h : IsN w v ns) (hs : s.length ≤ 4000) (t : Tree) (ht : okT t) (hsz : t.size ≤ 31) (hns : ns = flat 0 t) (hln : (ptx 0 t).length > 4096) : Calls Tryz.prog 6 #[v, str s] w fun e w' => e = .returned (.bool true) ∧ Below w.heap.size w w' := by
  replace ht := hid ht
  replace hns := hid hns
  replace hln := hid hln
  replace hsz := hid hsz
  have cA := hid (awake_any w hE)
  have hN := hid h
  have hPs := hid (fun W (hb : Below w.heap.size w W) => Parse_any s (hE.below hb).e (hE.below hb).o (by omega))
  have hcode : (∃ u, okT u ∧ u.size ≤ 31 ∧ (parseR s).1 = flat 0 u ∧ (parseR s).2 = 0) ∨ ((parseR s).2 ≠ 0 ∧ (parseR s).1 = []) := by
    rcases par_code s with h0 | h0
    · obtain ⟨u, a1, a2, a3⟩ := par_good h0
      exact .inl ⟨u, a1, a2, by rw [a3], by rw [a3]⟩
    · exact .inr h0
  generalize parseR s = p at *
  obtain ⟨pn, pc⟩ := p
  simp only at hcode hPs
  replace hE := hid hE
  replace hcode := hid hcode
  obtain ⟨a, c, rfl⟩ := h.slice
  have hb0 := h.bound.2
  clear h
  unfold str at *
  go_enter Tryz.func6, Tryz.ntmps6
  go_wp2_with fail
  refine cA.out.mono ?_
  rintro e w1 ⟨rfl, b1⟩
  have B1 := hid b1
  have cG := hid (great_any (hN.out.below b1))
  clear cA b1
  go_wp2_with fail
  refine cG.out.mono ?_
  rintro e w2 ⟨g, rfl, b2, -⟩
  have B2 := hid (low2 B1.out b2)
  have N2 := hid (hN.out.below B2.out)
  clear cG b2 B1
  cases g
  case true =>
    go_wp2
    go_ret
    exact ⟨rfl, B2.out⟩
  have q1 : decide ((4000 : Int) < (s.length : Int)) = false := decide_eq_false (by omega)
  replace ht := ht.out
  replace hns := hns.out
  replace hln := hln.out
  replace hsz := hsz.out
  have cR := hid (fun W (hb : Below w2.heap.size w2 W) => Right_any (N2.out.below hb))
  rw [hns, right_flat ht hsz] at cR
  have cP := hid (Print_yes (by rw [← hns]; exact N2.out) (hE.out.below B2.out).o (hE.out.below B2.out).t ht hsz)
  have hqn := print_ne ht
  unfold str at *
  clear ht hsz
  generalize ptx 0 t = zt at *
  rw [← hns] at *
  clear hns
  go_wp2_with fail
  refine cP.out.mono ?_
  rintro e w3 ⟨rfl, b3⟩
  have B3 := hid (low2 B2.out b3)
  have hb3 := hid b3
  clear cP b3
  go_wp2_with fail
  refine (cR.out _ hb3.out).mono ?_
  rintro e w4 ⟨rfl, b4⟩
  have B4 := hid (low2 B3.out b4)
  have hb4 := hid (low2 hb3.out b4)
  clear cR b4 B3 hb3
  have s1 : (zt == []) = false := by simpa using hqn
  have s2 : (zt != []) = true := by simpa using hqn
  have s3 : decide ((zt.length : Int) ≤ 4096) = false := decide_eq_false (by omega)
  replace hcode := hcode.out
  go_wp2_with fail
  refine (hPs.out _ B4.out).mono ?_
  rintro e x1 ⟨v1, rfl, o1, c1⟩
  obtain ⟨a1, d1, rfl⟩ := o1.slice
  have C1 := hid (low2 B4.out c1)
  rcases hcode with ⟨u, hu, hsz, rfl, rfl⟩ | ⟨hpc, rfl⟩
  · have N1 := hid o1.isN
    have hpr := hid (Print_yes N1.out (hE.out.below C1.out).o (hE.out.below C1.out).t hu hsz)
    have hun := print_ne hu
    have hpu := hid (fun hl => print_par hu hsz hl)
    have hPu := hid (fun W (hb : Below w.heap.size w W) (hl : (ptx 0 u).length ≤ 4096) => Parse_any (ptx 0 u) (hE.out.below hb).e (hE.out.below hb).o (by omega))
    have hR := hid (fun W (hb : Below x1.heap.size x1 W) => Right_any (N1.out.below hb))
    rw [right_flat hu hsz] at hR
    generalize ptx 0 u = z at *
    clear hPs o1 c1 hu hsz
    generalize flat 0 u = nu at *
    unfold str at *
    go_wp2_with fail
    refine hpr.out.mono ?_
    rintro e x2 ⟨rfl, c2⟩
    have hc2 := hid c2
    have C2 := hid (low2 C1.out c2)
    clear hpr c2
    go_wp2_with fail
    refine (hR.out _ hc2.out).mono ?_
    rintro e x3 ⟨rfl, c3⟩
    have C3 := hid (low2 C2.out c3)
    have hc3 := hid (low2 hc2.out c3)
    clear hR c3 hc2 C2
    have t1 : (z == []) = false := by simpa using hun
    have t2 : (z != []) = true := by simpa using hun
    by_cases hl : z.length ≤ 4096
    · have t3 : decide ((4096 : Int) < (z.length : Int)) = false := decide_eq_false (by omega)
      have hp4 := hid (hPu.out _ C3.out hl)
      rw [hpu.out hl] at hp4
      clear hPu hpu hl
      go_wp2_with fail
      refine hp4.out.mono ?_
      rintro e x4 ⟨v4, rfl, o4, c4⟩
      obtain ⟨a4, d4, rfl⟩ := o4.slice
      have C4 := hid (low2 C3.out c4)
      have cS := hid (rsame_any (N1.out.below (low2 hc3.out c4)) o4.isN)
      rw [sameN_refl] at cS
      clear hp4 o4 c4
      go_wp2_with fail
      refine cS.out.mono ?_
      rintro e x5 ⟨rfl, c5⟩
      have C5 := hid (low2 C4.out c5)
      clear cS c5
      go_wp2
      go_ret
      exact ⟨rfl, C5.out⟩
    · have t3 : decide ((4096 : Int) < (z.length : Int)) = true := decide_eq_true (by omega)
      clear hPu hpu hl
      go_wp2
      go_ret
      exact ⟨rfl, C3.out⟩
  · have t1 : (pc != 0) = true := by simp [hpc]
    clear hPs o1 c1
    go_wp2
    go_ret
    exact ⟨rfl, C1.out⟩
end Back
end Go.Proofs.YtjhodmpgggaknaaGreatDoor
