/- Joined: LF1 LF2 LF3. -/
import Derived.Test.YtjhodmpgggaknaaGreatDoorZF8
import Derived.Test.YtjhodmpgggaknaaGreatDoorZGQ
import Derived.Test.YtjhodmpgggaknaaGreatDoorZSM
/- ExprFrom: what is read; a text that is too long, or refused. -/
namespace Go.Proofs.YtjhodmpgggaknaaGreatDoor
open Go.ChangeShapes Go.WideShapes Go.ChangeAt Go.RowKit Go.Shelf Go.Maps
open Go.ChangeMaps (open_string shut_string)
namespace From

theorem read_none {l : List Tk} {at_ : Int} (h : ¬ (0 ≤ at_ ∧ at_ < (l.length : Int))) : readR l at_ = ([], 0, 100) := by
  unfold readR
  by_cases h1 : at_ < 0 ∨ (l.length : Int) < at_
  · rw [if_pos h1]
  · rw [if_neg h1]
    have e : l.drop at_.toNat = [] := List.drop_eq_nil_of_le (by omega)
    rw [e]
    rfl
theorem read_at (l : List Tk) (n : Nat) (h : n ≤ l.length) : readR l (n : Int) = if (outP (kat l n)).2.2 = 0 then ((outP (kat l n)).1, (l.length : Int) - ((outP (kat l n)).2.1.length : Int), 0) else ([], 0, (outP (kat l n)).2.2) := by
  unfold readR
  rw [if_neg (by omega)]
  rfl
theorem isN_nil (w : World) : IsN w (.slice none 0 0) [] := (ownN_nil 0 w).isN
theorem isTs_none (w : World) : IsTs w (.slice none 0 0) [] := isTs_nil w none 0 (by unfold maxLen; omega)
set_option maxRecDepth 100000 in
set_option maxHeartbeats 1000000 in
theorem walk_long (s : Tx) (at_ : Int) (w : World) (h : 2000 < s.length) : Calls Tryz.prog 5 #[str s, .int .i64 at_] w fun e w' => e = .returned (.bool true) ∧ Below w.heap.size w w' := by
  have q : decide ((2000 : Int) < (s.length : Int)) = true := decide_eq_true (by omega)
  clear h
  unfold str
  go_enter Tryz.func5, Tryz.ntmps5
  go_wp2
  go_ret
  exact ⟨rfl, Below.refl _ _⟩
set_option maxRecDepth 100000 in
set_option maxHeartbeats 2000000 in
theorem walk_bad (s : Tx) (at_ : Int) (w : World) (hE : Env w) (h : s.length ≤ 2000) (p : Nat) (hbad : badOf s = some p) : Calls Tryz.prog 5 #[str s, .int .i64 at_] w fun e w' => e = .returned (.bool true) ∧ Below w.heap.size w w' := by
  have q1 : decide ((2000 : Int) < (s.length : Int)) = false := decide_eq_false (by omega)
  have hal := hid (all_bad s w (hbad ▸ tks_scan s) (by omega))
  have hrf := hid (fun W => refAll_any s (tksOf s) (badOf s) (tks_scan s) (by omega) W)
  rw [hbad] at hrf
  have hR := hid (fun W (hb : Below w.heap.size w W) => Read_any (isTs_none W) (hE.below hb).e (hE.below hb).o (by intro t ht; cases ht) at_)
  rw [read_none (l := []) (by simp)] at hR
  clear hE h hbad
  unfold str at *
  go_enter Tryz.func5, Tryz.ntmps5
  go_wp2_with fail
  refine hal.out.mono ?_
  rintro e w1 ⟨rfl, b1⟩
  have B1 := hid b1
  clear hal b1
  go_wp2_with fail
  refine (hrf.out _).mono ?_
  rintro e w2 ⟨b2, ⟨r, hr, rfl⟩ | ⟨hr, -⟩⟩
  case inr => cases hr
  have B2 := hid (low2 B1.out b2)
  clear hrf b2 B1 hr
  go_wp2_with fail
  refine (hR.out _ B2.out).mono ?_
  rintro e w3 ⟨vn, rfl, o3, b3⟩
  obtain ⟨a3, c3, rfl⟩ := o3.slice
  have B3 := hid (low2 B2.out b3)
  have hNd := hid o3.isN
  have hW := hid (isN_nil w3)
  obtain ⟨l, hl⟩ : ∃ l : List Tk, l = [] := ⟨_, rfl⟩
  clear hR b3 B2 o3
  by_cases h0 : (0 : Int) ≤ at_
  all_goals
    by_cases h1 : at_ < (0 : Int)
    all_goals
      first
        | omega
        | (go_wp2_with fail
           go_loopw [17] (fun iv wr => iv = .int .i64 0 ∧ wr = w3) (fun iv _ => 1 - (intOf iv).toNat)
           case atStart => exact ⟨rfl, rfl⟩
           case round =>
             obtain ⟨rfl, rfl⟩ := hrel
             have cS := hid (rsame_any hNd.out hW.out)
             rw [sameN_refl] at cS
             clear hNd hW
             go_wp2_with fail
             refine cS.out.mono ?_
             rintro e V2 ⟨rfl, vb⟩
             have BV2 := hid (low2 B3.out vb)
             clear cS vb
             go_wp2
             go_ret
             exact ⟨rfl, BV2.out⟩)
end From
end Go.Proofs.YtjhodmpgggaknaaGreatDoor
/- ExprFrom, from no token on. -/
namespace Go.Proofs.YtjhodmpgggaknaaGreatDoor
open Go.ChangeShapes Go.WideShapes Go.ChangeAt Go.RowKit Go.Shelf Go.Maps
open Go.ChangeMaps (open_string shut_string)
namespace From

set_option maxRecDepth 100000 in
set_option maxHeartbeats 4000000 in
theorem walk_out (s : Tx) (at_ : Int) (w : World) (hE : Env w) (h : s.length ≤ 2000) (hbad : badOf s = none) (hat : ¬ (0 ≤ at_ ∧ at_ < ((tksOf s).length : Int))) : Calls Tryz.prog 5 #[str s, .int .i64 at_] w fun e w' => e = .returned (.bool true) ∧ Below w.heap.size w w' := by
  have q1 : decide ((2000 : Int) < (s.length : Int)) = false := decide_eq_false (by omega)
  have hsc : Scan 0 s (tksOf s) none := hbad ▸ tks_scan s
  have hm := scan_mem hsc
  have hal := hid (all_ok s w hsc (by omega))
  have hrf := hid (fun W => refAll_any s (tksOf s) none hsc (by omega) W)
  have hl4 : (tksOf s).length ≤ 2000 := by have := hm.1; omega
  have hR := hid (fun W (hb : Below w.heap.size w W) v (hv : IsTs W v (tksOf s)) => Read_any hv (hE.below hb).e (hE.below hb).o (fun t ht => by have := (hm.2.1 t ht).1; omega) at_)
  have hC := hid (fun (W : World) (v : Value) (n : Nat) (hn : n ≤ (tksOf s).length) (hv : IsDs W v (tksOf s)) => cond_any hv (by omega) (fun t ht => by have := (hm.2.1 t ht).1; omega) n 0 hn (by omega))
  clear hE h hbad hsc hm
  generalize tksOf s = l at *
  rw [read_none hat] at hR
  replace hat := hid hat
  unfold str at *
  go_enter Tryz.func5, Tryz.ntmps5
  go_wp2_with fail
  refine hal.out.mono ?_
  rintro e w1 ⟨a1, c1, rfl, o1, b1⟩
  have B1 := hid b1
  have T1 := hid o1.isT
  clear hal b1 o1
  go_wp2_with fail
  refine (hrf.out _).mono ?_
  rintro e w2 ⟨b2, ⟨r, hr, -⟩ | ⟨-, a2, c2, rfl, o2⟩⟩
  case inl => cases hr
  have B2 := hid (low2 B1.out b2)
  have T2 := hid (T1.out.below b2)
  have D2 := hid o2.isD
  clear hrf b2 B1 T1 o2
  go_wp2_with fail
  refine (hR.out _ B2.out _ T2.out).mono ?_
  rintro e w3 ⟨vn, rfl, o3, b3⟩
  obtain ⟨a3, c3, rfl⟩ := o3.slice
  have B3 := hid (low2 B2.out b3)
  have hT := hid (T2.out.below b3)
  have hD := hid (D2.out.below b3)
  have hNd := hid o3.isN
  clear hR b3 B2 T2 D2 o3
  have hW := hid (isN_nil w3)
  clear hC
  by_cases h0 : (0 : Int) ≤ at_
  · have h0' : decide ((0 : Int) ≤ at_) = true := decide_eq_true h0
    have h1 : ¬ at_ < (l.length : Int) := fun h => hat.out ⟨h0, h⟩
    have h1' : decide (at_ < (l.length : Int)) = false := decide_eq_false h1
    clear hat
    go_wp2_with fail
    go_loopw [17] (fun iv wr => ∃ k : Nat, iv = .int .i64 (k : Int) ∧ k ≤ l.length ∧ Hid (Below w3.heap.size w3 wr)) (fun iv _ => l.length - (intOf iv).toNat)
    case atStart => exact ⟨0, rfl, by omega, Below.refl _ _⟩
    case round =>
      obtain ⟨k, rfl, hk, hB⟩ := hrel
      obtain ⟨V, rfl⟩ : ∃ V : World, V = wr := ⟨_, rfl⟩
      by_cases hkl : (k : Int) < (l.length : Int)
      · obtain ⟨x, hx⟩ : ∃ x, l[k]? = some x := ⟨_, List.getElem?_eq_getElem (by omega)⟩
        obtain ⟨g1, f1, rfl, hc1⟩ := (hT.out.below hB.out).at (k := k) (by omega)
        obtain ⟨g2, f2, rfl, hc2⟩ := (hD.out.below hB.out).at (k := k) (by omega)
        obtain ⟨-, x1, -⟩ := hc1 k x hx
        obtain ⟨-, y1, -, -⟩ := hc2 k x hx
        unfold str at x1 y1
        have q : (x.text != x.text) = false := by simp
        have k0 : (0 : Int) ≤ (k : Int) := by omega
        have hBn := hid (fun n => below_drewN (n := n) hB.out)
        clear hc1 hc2 hx hNd hW B3 hT hD
        go_wp2_with fail
        go_quiet (fail)
        go_wp2
        exact ⟨⟨k + 1, by simp, by omega, hBn.out _⟩, by simp [intOf]; omega⟩
      · have cS := hid (rsame_any (hNd.out.below hB.out) (hW.out.below hB.out))
        rw [sameN_refl] at cS
        have BV := hid (low2 B3.out hB.out)
        clear hNd hW B3 hT hD hB
        go_wp2_with fail
        refine cS.out.mono ?_
        rintro e V2 ⟨rfl, vb⟩
        have BV2 := hid (low2 BV.out vb)
        clear cS vb
        go_wp2
        go_ret
        exact ⟨rfl, BV2.out⟩
  · have h0' : decide ((0 : Int) ≤ at_) = false := decide_eq_false h0
    clear hat
    go_wp2_with fail
    go_loopw [17] (fun iv wr => ∃ k : Nat, iv = .int .i64 (k : Int) ∧ k ≤ l.length ∧ Hid (Below w3.heap.size w3 wr)) (fun iv _ => l.length - (intOf iv).toNat)
    case atStart => exact ⟨0, rfl, by omega, Below.refl _ _⟩
    case round =>
      obtain ⟨k, rfl, hk, hB⟩ := hrel
      obtain ⟨V, rfl⟩ : ∃ V : World, V = wr := ⟨_, rfl⟩
      by_cases hkl : (k : Int) < (l.length : Int)
      · obtain ⟨x, hx⟩ : ∃ x, l[k]? = some x := ⟨_, List.getElem?_eq_getElem (by omega)⟩
        obtain ⟨g1, f1, rfl, hc1⟩ := (hT.out.below hB.out).at (k := k) (by omega)
        obtain ⟨g2, f2, rfl, hc2⟩ := (hD.out.below hB.out).at (k := k) (by omega)
        obtain ⟨-, x1, -⟩ := hc1 k x hx
        obtain ⟨-, y1, -, -⟩ := hc2 k x hx
        unfold str at x1 y1
        have q : (x.text != x.text) = false := by simp
        have k0 : (0 : Int) ≤ (k : Int) := by omega
        have hBn := hid (fun n => below_drewN (n := n) hB.out)
        clear hc1 hc2 hx hNd hW B3 hT hD
        go_wp2_with fail
        go_quiet (fail)
        go_wp2
        exact ⟨⟨k + 1, by simp, by omega, hBn.out _⟩, by simp [intOf]; omega⟩
      · have cS := hid (rsame_any (hNd.out.below hB.out) (hW.out.below hB.out))
        rw [sameN_refl] at cS
        have BV := hid (low2 B3.out hB.out)
        clear hNd hW B3 hT hD hB
        go_wp2_with fail
        refine cS.out.mono ?_
        rintro e V2 ⟨rfl, vb⟩
        have BV2 := hid (low2 BV.out vb)
        clear cS vb
        go_wp2
        go_ret
        exact ⟨rfl, BV2.out⟩
end From
end Go.Proofs.YtjhodmpgggaknaaGreatDoor
/- ExprFrom, from a token on. -/
namespace Go.Proofs.YtjhodmpgggaknaaGreatDoor
open Go.ChangeShapes Go.WideShapes Go.ChangeAt Go.RowKit Go.Shelf Go.Maps
open Go.ChangeMaps (open_string shut_string)
namespace From

set_option maxRecDepth 100000 in
set_option maxHeartbeats 4000000 in
theorem walk_in (s : Tx) (at_ : Int) (w : World) (hE : Env w) (h : s.length ≤ 2000) (hbad : badOf s = none) (n : Nat) (hn : at_ = n) (hat : n < (tksOf s).length) : Calls Tryz.prog 5 #[str s, .int .i64 at_] w fun e w' => e = .returned (.bool true) ∧ Below w.heap.size w w' := by
  have q1 : decide ((2000 : Int) < (s.length : Int)) = false := decide_eq_false (by omega)
  have hsc : Scan 0 s (tksOf s) none := hbad ▸ tks_scan s
  have hm := scan_mem hsc
  have hal := hid (all_ok s w hsc (by omega))
  have hrf := hid (fun W => refAll_any s (tksOf s) none hsc (by omega) W)
  have hl4 : (tksOf s).length ≤ 2000 := by have := hm.1; omega
  have hR := hid (fun W (hb : Below w.heap.size w W) v (hv : IsTs W v (tksOf s)) => Read_any hv (hE.below hb).e (hE.below hb).o (fun t ht => by have := (hm.2.1 t ht).1; omega) at_)
  have hC := hid (fun (W : World) (v : Value) (n : Nat) (hn : n ≤ (tksOf s).length) (hv : IsDs W v (tksOf s)) => cond_any hv (by omega) (fun t ht => by have := (hm.2.1 t ht).1; omega) n 0 hn (by omega))
  clear hE h hbad hsc hm
  generalize tksOf s = l at *
  subst hn
  have hrr := hid (read_at l n (by omega))
  obtain ⟨rr, hrd⟩ : ∃ rr, rr = readR l (n : Int) := ⟨_, rfl⟩
  rw [← hrd] at hR hrr
  obtain ⟨RN, RX, RC⟩ := rr
  simp only at hR
  clear hrd
  have n0 : (0 : Int) ≤ (n : Int) := by omega
  have n1 : (n : Int) < (l.length : Int) := by omega
  have n0' : decide ((0 : Int) ≤ (n : Int)) = true := decide_eq_true n0
  have n1' : decide ((n : Int) < (l.length : Int)) = true := decide_eq_true n1
  unfold str at *
  go_enter Tryz.func5, Tryz.ntmps5
  go_wp2_with fail
  refine hal.out.mono ?_
  rintro e w1 ⟨a1, c1, rfl, o1, b1⟩
  have B1 := hid b1
  have T1 := hid o1.isT
  clear hal b1 o1
  go_wp2_with fail
  refine (hrf.out _).mono ?_
  rintro e w2 ⟨b2, ⟨r, hr, -⟩ | ⟨-, a2, c2, rfl, o2⟩⟩
  case inl => cases hr
  have B2 := hid (low2 B1.out b2)
  have T2 := hid (T1.out.below b2)
  have D2 := hid o2.isD
  clear hrf b2 B1 T1 o2
  go_wp2_with fail
  refine (hR.out _ B2.out _ T2.out).mono ?_
  rintro e w3 ⟨vn, rfl, o3, b3⟩
  obtain ⟨a3, c3, rfl⟩ := o3.slice
  have B3 := hid (low2 B2.out b3)
  have hT := hid (T2.out.below b3)
  have hD := hid (D2.out.below b3)
  have hNd := hid o3.isN
  clear hR b3 B2 T2 D2 o3
  go_wp2_with fail
  refine (hC.out _ _ n (by omega) hD.out).mono ?_
  intro e w4 hrd
  obtain ⟨na, m, nc, nx, ns, rfl, hO, rfl, hnl, b4, hcase⟩ := rowD_out hrd
  have B4 := hid (low2 B3.out b4)
  replace hT := hid (hT.out.below b4)
  replace hD := hid (hD.out.below b4)
  replace hNd := hid (hNd.out.below b4)
  have hO4 := hid hO.isN
  clear hrd hO b4 hC B3
  rcases hcase with ⟨rfl, ho⟩ | ⟨t, j, u, rfl, hj1, hj2, hns, htu, hnt, ho⟩
  · have e1 := hrr.out
    rw [ho] at e1
    simp at e1
    obtain ⟨rfl, rfl, rfl⟩ := e1
    have hW := hid (isN_nil w4)
    clear hrr ho hO4
    go_wp2_with fail
    go_loopw [17] (fun iv wr => ∃ k : Nat, iv = .int .i64 (k : Int) ∧ k ≤ l.length ∧ Hid (Below w4.heap.size w4 wr)) (fun iv _ => l.length - (intOf iv).toNat)
    case atStart => exact ⟨0, rfl, by omega, Below.refl _ _⟩
    case round =>
      obtain ⟨k, rfl, hk, hB⟩ := hrel
      obtain ⟨V, rfl⟩ : ∃ V : World, V = wr := ⟨_, rfl⟩
      by_cases hkl : (k : Int) < (l.length : Int)
      · obtain ⟨x, hx⟩ : ∃ x, l[k]? = some x := ⟨_, List.getElem?_eq_getElem (by omega)⟩
        obtain ⟨g1, f1, rfl, hc1⟩ := (hT.out.below hB.out).at (k := k) (by omega)
        obtain ⟨g2, f2, rfl, hc2⟩ := (hD.out.below hB.out).at (k := k) (by omega)
        obtain ⟨-, x1, -⟩ := hc1 k x hx
        obtain ⟨-, y1, -, -⟩ := hc2 k x hx
        unfold str at x1 y1
        have q : (x.text != x.text) = false := by simp
        have k0 : (0 : Int) ≤ (k : Int) := by omega
        have hBn := hid (fun n => below_drewN (n := n) hB.out)
        clear hc1 hc2 hx hNd hW B4 hT hD
        go_wp2_with fail
        go_quiet (fail)
        go_wp2
        exact ⟨⟨k + 1, by simp, by omega, hBn.out _⟩, by simp [intOf]; omega⟩
      · have cS := hid (rsame_any (hNd.out.below hB.out) (hW.out.below hB.out))
        rw [sameN_refl] at cS
        have BV := hid (low2 B4.out hB.out)
        clear hNd hW B4 hT hD hB
        go_wp2_with fail
        refine cS.out.mono ?_
        rintro e V2 ⟨rfl, vb⟩
        have BV2 := hid (low2 BV.out vb)
        clear cS vb
        go_wp2
        go_ret
        exact ⟨rfl, BV2.out⟩
  · have jn : decide ((j : Int) < 0) = false := decide_eq_false (by omega)
    by_cases ht : t ≤ 31
    · have e1 := hrr.out
      rw [ho, if_pos ht] at e1
      simp only [if_true, Prod.mk.injEq] at e1
      obtain ⟨e0, e2, rfl⟩ := e1
      rw [← hns] at e0
      have q2 : decide ((31 : Int) < (ns.length : Int)) = false := decide_eq_false (by omega)
      subst e0
      have e3 : RX = (j : Int) := by rw [e2, kat_len]; omega
      subst e3
      have hW := hO4
      clear hrr ho hO4 e2 hns htu hnt ht hj1 hj2
      go_wp2_with fail
      go_loopw [17] (fun iv wr => ∃ k : Nat, iv = .int .i64 (k : Int) ∧ k ≤ l.length ∧ Hid (Below w4.heap.size w4 wr)) (fun iv _ => l.length - (intOf iv).toNat)
      case atStart => exact ⟨0, rfl, by omega, Below.refl _ _⟩
      case round =>
        obtain ⟨k, rfl, hk, hB⟩ := hrel
        obtain ⟨V, rfl⟩ : ∃ V : World, V = wr := ⟨_, rfl⟩
        by_cases hkl : (k : Int) < (l.length : Int)
        · obtain ⟨x, hx⟩ : ∃ x, l[k]? = some x := ⟨_, List.getElem?_eq_getElem (by omega)⟩
          obtain ⟨g1, f1, rfl, hc1⟩ := (hT.out.below hB.out).at (k := k) (by omega)
          obtain ⟨g2, f2, rfl, hc2⟩ := (hD.out.below hB.out).at (k := k) (by omega)
          obtain ⟨-, x1, -⟩ := hc1 k x hx
          obtain ⟨-, y1, -, -⟩ := hc2 k x hx
          unfold str at x1 y1
          have q : (x.text != x.text) = false := by simp
          have k0 : (0 : Int) ≤ (k : Int) := by omega
          have hBn := hid (fun n => below_drewN (n := n) hB.out)
          clear hc1 hc2 hx hNd hW B4 hT hD
          go_wp2_with fail
          go_quiet (fail)
          go_wp2
          exact ⟨⟨k + 1, by simp, by omega, hBn.out _⟩, by simp [intOf]; omega⟩
        · have cS := hid (rsame_any (hNd.out.below hB.out) (hW.out.below hB.out))
          rw [sameN_refl] at cS
          have BV := hid (low2 B4.out hB.out)
          clear hNd hW B4 hT hD hB
          go_wp2_with fail
          refine cS.out.mono ?_
          rintro e V2 ⟨rfl, vb⟩
          have BV2 := hid (low2 BV.out vb)
          clear cS vb
          go_wp2
          go_ret
          exact ⟨rfl, BV2.out⟩
    · have e1 := hrr.out
      rw [ho, if_neg ht] at e1
      simp at e1
      obtain ⟨rfl, rfl, rfl⟩ := e1
      have q2 : decide ((31 : Int) < (ns.length : Int)) = true := decide_eq_true (by omega)
      have hW := hid (isN_nil w4)
      clear hrr ho hO4 hns htu hnt ht hj1 hj2
      go_wp2_with fail
      go_loopw [17] (fun iv wr => ∃ k : Nat, iv = .int .i64 (k : Int) ∧ k ≤ l.length ∧ Hid (Below w4.heap.size w4 wr)) (fun iv _ => l.length - (intOf iv).toNat)
      case atStart => exact ⟨0, rfl, by omega, Below.refl _ _⟩
      case round =>
        obtain ⟨k, rfl, hk, hB⟩ := hrel
        obtain ⟨V, rfl⟩ : ∃ V : World, V = wr := ⟨_, rfl⟩
        by_cases hkl : (k : Int) < (l.length : Int)
        · obtain ⟨x, hx⟩ : ∃ x, l[k]? = some x := ⟨_, List.getElem?_eq_getElem (by omega)⟩
          obtain ⟨g1, f1, rfl, hc1⟩ := (hT.out.below hB.out).at (k := k) (by omega)
          obtain ⟨g2, f2, rfl, hc2⟩ := (hD.out.below hB.out).at (k := k) (by omega)
          obtain ⟨-, x1, -⟩ := hc1 k x hx
          obtain ⟨-, y1, -, -⟩ := hc2 k x hx
          unfold str at x1 y1
          have q : (x.text != x.text) = false := by simp
          have k0 : (0 : Int) ≤ (k : Int) := by omega
          have hBn := hid (fun n => below_drewN (n := n) hB.out)
          clear hc1 hc2 hx hNd hW B4 hT hD
          go_wp2_with fail
          go_quiet (fail)
          go_wp2
          exact ⟨⟨k + 1, by simp, by omega, hBn.out _⟩, by simp [intOf]; omega⟩
        · have cS := hid (rsame_any (hNd.out.below hB.out) (hW.out.below hB.out))
          rw [sameN_refl] at cS
          have BV := hid (low2 B4.out hB.out)
          clear hNd hW B4 hT hD hB
          go_wp2_with fail
          refine cS.out.mono ?_
          rintro e V2 ⟨rfl, vb⟩
          have BV2 := hid (low2 BV.out vb)
          clear cS vb
          go_wp2
          go_ret
          exact ⟨rfl, BV2.out⟩
end From
end Go.Proofs.YtjhodmpgggaknaaGreatDoor
