/- LogBack's walk. -/
import Derived.Test.YtihgikekkgoddaaGreatDoorZBk1
import Derived.Test.YtihgikekkgoddaaGreatDoorZSy2
namespace Go.Proofs.YtihgikekkgoddaaGreatDoor
open Go.RowKit Go.Shelf Sto

theorem enc_room (r : List UInt8) (h : r.length ≤ 65536) : (enc r).length ≤ r.length + 20 := by
  rw [enc_len, Frm.fr_len, ints_len]
  have := Frm.vi_len (n := r.length) (by omega)
  rw [this]
  have : Frm.wide r.length ≤ 3 := by unfold Frm.wide; split <;> (try split) <;> omega
  omega
def total (l : List (List UInt8)) : Nat := (l.map List.length).sum
theorem total_succ {l : List (List UInt8)} {i : Nat} (hi : i < l.length) : total (l.take (i + 1)) = total (l.take i) + l[i].length := by
  unfold total; rw [List.take_succ_eq_append_getElem hi, List.map_append, List.sum_append]; simp
theorem encs_room {l : List (List UInt8)} (h : ∀ r ∈ l, r.length ≤ 65536) : (encs l).length ≤ total l + 20 * l.length := by
  induction l with
  | nil => simp [encs]
  | cons a r ih =>
    have e : encs (a :: r) = enc a ++ encs r := by simp [encs]
    have e1 := enc_room a (h a (by simp))
    have e2 := ih (fun p hp => h p (by simp [hp]))
    have e3 : total (a :: r) = a.length + total r := by simp [total]
    rw [e, List.length_append, List.length_cons, e3]
    omega
theorem isR_drop {w : World} {b off c : Nat} {l : List (List UInt8)} (h : IsR w (.slice (some ⟨b, off, none⟩) l.length c) l) {k : Nat} (hk : k ≤ l.length) : IsR w (.slice (some ⟨b, off + k, none⟩) (l.length - k) (c - k)) (l.drop k) := by
  obtain ⟨a', c', e, h1, h2, h3⟩ := h
  cases e
  refine ⟨_, c - k, by rw [List.length_drop], by rw [List.length_drop]; omega, by omega, ?_⟩
  rcases h3 with rfl | ⟨b', off', e, h4⟩
  · left; simp
  · cases e
    right
    refine ⟨b, off + k, rfl, fun i hi => ?_⟩
    rw [List.length_drop] at hi
    obtain ⟨u, h5, h6⟩ := h4 (k + i) (by omega)
    exact ⟨u, by rw [Nat.add_assoc]; exact h5, by rw [List.getElem_drop]; exact h6⟩
theorem isR_none (w : World) (a : Option Addr) : IsR w (.slice a 0 0) [] := ⟨a, 0, rfl, by simp, by simp, .inl rfl⟩
theorem BkT.drew {B : Nat} {w : World} {sb N : Nat} {S : List UInt8} {rs : List (List UInt8)} {K A : Nat} {wr : World} (h : BkT B w sb N S rs K A wr) (m : Nat) : BkT B w sb N S rs K A (wr.drewN m) := by
  obtain ⟨g, t, s, s', h1, h2, h3, h4, h5, h6⟩ := h
  exact ⟨g, t, s, s', h1.below (low_drewN m _ (Below.refl _ _)), h2, h3, h4, h5, low_drewN m _ h6⟩
theorem isR_lit1 (w : World) : IsR ((w.alloc (.cells #[.int .u8 1] 5)).alloc (.cells #[.slice (some ⟨w.heap.size, 0, none⟩) 1 1] 22)) (.slice (some ⟨w.heap.size + 1, 0, none⟩) 1 1) [[1]] := by
  have b1 := isB_one w 1
  have a1 := alloc_low (w.alloc (.cells #[.int .u8 1] 5)) (.cells #[.slice (some ⟨w.heap.size, 0, none⟩) 1 1] 22)
  have e := (MapKept.heap_alloc (w.alloc (.cells #[.int .u8 1] 5)) (.cells #[.slice (some ⟨w.heap.size, 0, none⟩) 1 1] 22)).1
  rw [World.size_alloc] at e
  refine ⟨_, 1, rfl, by simp, by unfold maxLen; omega, .inr ⟨w.heap.size + 1, 0, rfl, fun i hi => ?_⟩⟩
  obtain rfl : i = 0 := by simp at hi; omega
  exact ⟨.slice (some ⟨w.heap.size, 0, none⟩) 1 1, by rw [cell_of e]; rfl, b1.below a1⟩
theorem low_two (w : World) (o1 o2 : Obj) : Below w.heap.size w ((w.alloc o1).alloc o2) := ((Below.refl _ w).alloc (Nat.le_refl _) _).alloc (by simp) _
/-- the loop's state ahead of the record at i. -/
def BkI (B : Nat) (w : World) (lb sb : Nat) (l : List (List UInt8)) (sn : List UInt8) (at' : Int) (i : Nat) (fv : Value) (wr : World) : Prop :=
  (¬ (0 ≤ at' ∧ at' < (i : Int)) ∧ fv = .int .i64 0 ∧ BkS B w lb sb 0 [] (l.take i) 2 (100 + i) wr) ∨ ∃ k : Nat, at' = (k : Int) ∧ k < i ∧ fv = .int .i64 ((k : Int) + 1) ∧ BkS B w lb sb 1 sn ((l.take i).drop (k + 1)) 4 (200 + i) wr
set_option maxRecDepth 100000 in
set_option maxHeartbeats 8000000 in
theorem logBack_walk (vl : Value) (l : List (List UInt8)) (at' : Int) (vs : Value) (sn : List UInt8) (w : World) (hR : IsR w vl l) (hB : Frm.IsB w vs (ints sn)) : Calls Tryz.prog 5 #[vl, .int .i64 at', vs] w fun e w' => e = .returned (.bool true) ∧ Below w.heap.size w w' := by
  obtain ⟨a, c, rfl⟩ : ∃ a c, vl = .slice a l.length c := by obtain ⟨a, c, e, _⟩ := hR; exact ⟨a, c, e⟩
  obtain ⟨sa, sc, rfl⟩ : ∃ a c, vs = .slice a sn.length c := by obtain ⟨a, c, e⟩ := hB.slice; rw [ints_len] at e; exact ⟨a, c, e⟩
  have hmax : l.length ≤ maxLen := by obtain ⟨a', c', e, h1, h2, _⟩ := hR; omega
  unfold maxLen at hmax
  have HR := hid hR
  have HB := hid hB
  clear hR hB
  go_enter Tryz.func5, Tryz.ntmps5
  go_wp2_with fail
  go_loopw [7, 8] (fun nv iv wr => ∃ (i : Nat), i ≤ l.length ∧ iv = .int .i64 i ∧ nv = .int .i64 (total (l.take i) : Int) ∧ wr = w ∧ i ≤ 60 ∧ total (l.take i) ≤ 10000 ∧ ∀ j (hj : j < l.length), j < i → l[j].length ≤ 10000) (fun _ iv _ => l.length - (intOf iv).toNat)
  case atStart => exact ⟨0, by omega, rfl, rfl, rfl, by omega, by simp [total], fun j _ hj => by omega⟩
  case round =>
    obtain ⟨i, hi, rfl, rfl, hw, hi60, htot, h10⟩ := hrel
    obtain rfl := hw.symm
    replace h10 := hid h10
    by_cases hlt : i < l.length
    · have hlt' : (i : Int) < (l.length : Int) := by omega
      obtain ⟨b, off, ua, uc, rfl, hcell, hBi⟩ := isR_at HR.out hlt
      replace hBi := hid hBi
      by_cases h60 : 60 ≤ i
      · have h60' : (60 : Int) ≤ (i : Int) := by omega
        clear HR HB h10 hBi
        go_wp2
        go_ret
        exact ⟨rfl, Below.refl _ _⟩
      · have h60' : ¬ (60 : Int) ≤ (i : Int) := by omega
        by_cases hlen : 10000 < l[i].length
        · have hlen' : (10000 : Int) < (l[i].length : Int) := by omega
          clear HR HB h10 hBi
          generalize l[i].length = z at *
          go_wp2
          go_ret
          exact ⟨rfl, Below.refl _ _⟩
        · have hlen' : ¬ (10000 : Int) < (l[i].length : Int) := by omega
          have hsum := total_succ hlt
          have h11 : Hid (∀ j (hj : j < l.length), j < i + 1 → l[j].length ≤ 10000) := by
            intro j hj hji
            rcases Nat.lt_or_ge j i with h | h
            · exact h10.out j hj h
            · obtain rfl : j = i := by omega
              omega
          by_cases hbig : 10000 < total (l.take (i + 1))
          · have hbig' : (10000 : Int) < (total (l.take i) : Int) + (l[i].length : Int) := by omega
            clear HR HB h10 hBi h11 hsum
            generalize l[i].length = z at *
            generalize total (l.take i) = q at *
            go_wp2
            go_ret
            exact ⟨rfl, Below.refl _ _⟩
          · have hbig' : ¬ (10000 : Int) < (total (l.take i) : Int) + (l[i].length : Int) := by omega
            have NX : Hid ((total (l.take i) : Int) + (l[i].length : Int) = (total (l.take (i + 1)) : Int) ∧ total (l.take (i + 1)) ≤ 10000) := ⟨by omega, by omega⟩
            clear HR HB h10 hBi hsum hbig
            generalize l[i].length = z at *
            generalize total (l.take i) = q at *
            go_wp2
            refine ⟨⟨i + 1, by omega, by simp, by rw [NX.out.1], trivial, by omega, NX.out.2, h11.out⟩, ?_⟩
            simp only [intOf]; omega
    · have hlt' : ¬ (i : Int) < (l.length : Int) := by omega
      obtain rfl : i = l.length := by omega
      rw [List.take_length] at htot
      have H10 : Hid (∀ p ∈ l, p.length ≤ 10000) := by
        intro p hp
        obtain ⟨j, hj, rfl⟩ := List.mem_iff_getElem.1 hp
        exact h10.out j hj (by omega)
      clear h10
      generalize total (l.take l.length) = T0 at *
      by_cases hsn : 10000 < sn.length
      · have hsn' : (10000 : Int) < (sn.length : Int) := by omega
        clear HR HB H10
        go_wp2
        go_ret
        exact ⟨rfl, Below.refl _ _⟩
      · have hsn' : ¬ (10000 : Int) < (sn.length : Int) := by omega
        go_wp2_with fail
        refine (new_t w).mono ?_
        rintro e w1 ⟨rfl, hI1, hb1, hs1⟩
        have ho1 := hid (bk_begin1 hI1 hb1)
        clear hb1 hs1 hI1
        unfold ptr str at ho1
        unfold ptr
        generalize w.heap.size + 1 = sb at *
        go_wp2_with fail
        refine ho1.out.mono ?_
        rintro e w2 ⟨lb, x1, x2, x3, x4, rfl, h2⟩
        have ho2 := hid (bk_begin2 h2)
        clear ho1 h2
        unfold ptr str at ho2
        go_wp2_with fail
        refine ho2.out.mono ?_
        rintro e w3 ⟨lo, y1, y2, y3, y4, rfl, h3⟩
        have ho3 := hid h3
        clear ho2 h3
        try unfold ptr at ho3
        go_wp2_with fail
        refine ho3.out.mono ?_
        rintro e w4 ⟨rfl, S0⟩
        have I0 : Hid (BkI w.heap.size w lb sb l sn at' 0 (.int .i64 0) w4) := .inl ⟨by omega, rfl, by
          obtain ⟨g, t, s, s', f, q1, q2, q3, q4, q5, q6⟩ := S0
          exact ⟨g, t, s, s', f, q1, q2, q3, q4, by omega, q6⟩⟩
        clear ho3 S0
        go_wp2_with fail
        go_loopw [18, 19] (fun fv iv wr => ∃ (i : Nat), i ≤ l.length ∧ iv = .int .i64 i ∧ BkI w.heap.size w lb sb l sn at' i fv wr) (fun _ iv _ => l.length - (intOf iv).toNat)
        case atStart => exact ⟨0, by omega, rfl, I0.out⟩
        case round =>
          rename_i fv _ wr
          obtain ⟨i, hi, rfl, hI⟩ := hrel
          by_cases hlt : i < l.length
          · have hlt' : (i : Int) < (l.length : Int) := by omega
            have hli := H10.out l[i] (List.getElem_mem hlt)
            obtain ⟨b, off, ua, uc, rfl, _, _⟩ := isR_at HR.out hlt
            have AT : Hid (∀ W, Below w.heap.size w W → ∃ ua uc, W.cell? ⟨b, off + i, none⟩ = some (.slice ua l[i].length uc) ∧ Frm.IsB W (.slice ua l[i].length uc) (ints l[i])) := by
              intro W hW
              obtain ⟨b', off', ua, uc, e, h1, h2⟩ := isR_at (HR.out.below hW) hlt
              cases e
              exact ⟨ua, uc, h1, h2⟩
            rcases hI with ⟨hno, rfl, hS⟩ | ⟨k, rfl, hk, rfl, hS⟩
            · obtain ⟨ua4, uc4, hc4, hB4⟩ := AT.out _ hS.low
              have c2 := hid (bk_append hS (by omega) _ _ hB4 hli (by rw [List.length_take]; omega) (by
                have e1 := enc_room l[i] (by omega)
                have e2 := encs_room (l := l.take i) (fun r hr => by have := H10.out r (List.mem_of_mem_take hr); omega)
                have e3 : total (l.take i) ≤ total l := by
                  unfold total; conv => rhs; rw [← List.take_append_drop i l, List.map_append, List.sum_append]
                  omega
                have e4 : (l.take i).length ≤ 60 := by rw [List.length_take]; omega
                omega))
              rw [← List.take_succ_eq_append_getElem hlt] at c2
              unfold ptr at c2
              clear hS hB4 I0
              by_cases hat : at' = (i : Int)
              · subst hat
                go_wp2_with fail
                refine c2.out.mono ?_
                rintro e w5 ⟨rfl, S5⟩
                have c3 := hid (bk_check S5 (by omega) (by omega) _ sn (HB.out.below S5.low) (by omega))
                unfold ptr at c3
                clear c2 S5
                go_wp2_with fail
                refine c3.out.mono ?_
                rintro e w6 ⟨rfl, S6⟩
                have I6 : Hid (BkI w.heap.size w lb sb l sn (i : Int) (i + 1) (.int .i64 ((i : Int) + 1)) w6) := .inr ⟨i, rfl, by omega, rfl, by
                  have e : (l.take (i + 1)).drop (i + 1) = [] := by rw [List.drop_eq_nil_iff, List.length_take]; omega
                  rw [e]
                  obtain ⟨g, t, s, s', f, q1, q2, q3, q4, q5, q6⟩ := S6
                  exact ⟨g, t, s, s', f, q1, q2, q3, q4, by omega, q6⟩⟩
                clear c3 S6
                go_wp2
                exact ⟨⟨i + 1, by omega, by simp, I6.out⟩, by simp only [intOf]; omega⟩
              · have hat' : ((i : Int) == at') = false := by simp; omega
                go_wp2_with fail
                refine c2.out.mono ?_
                rintro e w5 ⟨rfl, S5⟩
                have I6 : Hid (BkI w.heap.size w lb sb l sn at' (i + 1) (.int .i64 0) w5) := .inl ⟨by omega, rfl, by
                  obtain ⟨g, t, s, s', f, q1, q2, q3, q4, q5, q6⟩ := S5
                  exact ⟨g, t, s, s', f, q1, q2, q3, q4, by omega, q6⟩⟩
                clear c2 S5
                go_wp2
                exact ⟨⟨i + 1, by omega, by simp, I6.out⟩, by simp only [intOf]; omega⟩
            · obtain ⟨ua4, uc4, hc4, hB4⟩ := AT.out _ hS.low
              have c2 := hid (bk_append hS (by omega) _ _ hB4 hli (by rw [List.length_drop, List.length_take]; omega) (by
                have e1 := enc_room l[i] (by omega)
                have e2 := encs_room (l := (l.take i).drop (k + 1)) (fun r hr => by have := H10.out r (List.mem_of_mem_take (List.mem_of_mem_drop hr)); omega)
                have e3 : total ((l.take i).drop (k + 1)) ≤ total l := by
                  unfold total
                  have a1 : ((l.take i).map List.length).sum ≤ (l.map List.length).sum := by
                    conv => rhs; rw [← List.take_append_drop i l, List.map_append, List.sum_append]
                    omega
                  have a2 : (((l.take i).drop (k + 1)).map List.length).sum ≤ ((l.take i).map List.length).sum := by
                    conv => rhs; rw [← List.take_append_drop (k + 1) (l.take i), List.map_append, List.sum_append]
                    omega
                  omega
                have e4 : ((l.take i).drop (k + 1)).length ≤ 60 := by rw [List.length_drop, List.length_take]; omega
                omega))
              rw [show (l.take i).drop (k + 1) ++ [l[i]] = (l.take (i + 1)).drop (k + 1) by
                rw [List.take_succ_eq_append_getElem hlt, List.drop_append_of_le_length (by rw [List.length_take]; omega)]] at c2
              unfold ptr at c2
              clear hS hB4 I0
              have hat' : ((i : Int) == (k : Int)) = false := by simp; omega
              go_wp2_with fail
              refine c2.out.mono ?_
              rintro e w5 ⟨rfl, S5⟩
              have I6 : Hid (BkI w.heap.size w lb sb l sn (k : Int) (i + 1) (.int .i64 ((k : Int) + 1)) w5) := .inr ⟨k, rfl, by omega, rfl, by
                obtain ⟨g, t, s, s', f, q1, q2, q3, q4, q5, q6⟩ := S5
                exact ⟨g, t, s, s', f, q1, q2, q3, q4, by omega, q6⟩⟩
              clear c2 S5
              go_wp2
              exact ⟨⟨i + 1, by omega, by simp, I6.out⟩, by simp only [intOf]; omega⟩
          · have hlt' : ¬ (i : Int) < (l.length : Int) := by omega
            obtain rfl : i = l.length := by omega
            clear I0
            rcases hI with ⟨hno, rfl, hS⟩ | ⟨k, rfl, hk, rfl, hS⟩
            · have T0' : Hid (BkT w.heap.size w sb 0 [] l 2 1000 wr) := by
                obtain ⟨g, t, s, s', q1, q2, q3, q4, q5, q6⟩ := hS.bare
                rw [List.take_length] at q2
                exact ⟨g, t, s, s', q1, q2, q3, q4, by omega, q6⟩
              clear hS
              have hcap : l.length ≤ c := by obtain ⟨_, _, e, h1, _⟩ := HR.out; cases e; exact h1
              have MADE : (decide (0 ≤ at') && decide (at' < (l.length : Int))) = false := by
                rw [← Bool.not_eq_true, Bool.and_eq_true, decide_eq_true_iff, decide_eq_true_iff]; exact hno
              by_cases h0 : 0 ≤ at'
              · have h1 : ¬ at' < (l.length : Int) := by omega
                clear hno MADE
                go_wp2_with fail
                go_loopw [21] (fun iv wr => ∃ (n : Nat), n ≤ 2 ∧ iv = .int .i64 n ∧ BkT w.heap.size w sb 0 [] l (2 + n) (1000 + 60 * n) wr) (fun iv _ => 2 - (intOf iv).toNat)
                case atStart => exact ⟨0, by omega, rfl, T0'.out⟩
                case round =>
                  obtain ⟨n, hn, rfl, hT⟩ := hrel
                  by_cases hn2 : n < 2
                  · have hn2' : (n : Int) < 2 := by omega
                    have c5 := hid (bk_open hT (by omega) (by omega) H10.out)
                    clear hT T0'
                    unfold ptr str at c5
                    go_wp2_with fail
                    refine c5.out.mono ?_
                    rintro e w7 ⟨lb7, sv7, rv7, rfl, S7, hsv7, hrv7, hlog7⟩
                    obtain ⟨q1, q2, hq⟩ := hsv7.slice
                    rw [ints_len, List.length_nil] at hq
                    subst hq
                    obtain ⟨r1, r2, hr⟩ : ∃ r1 r2, rv7 = .slice r1 l.length r2 := by obtain ⟨r1, r2, hr, _⟩ := hrv7; exact ⟨r1, r2, hr⟩
                    subst hr
                    have L7 := hid S7.low
                    replace hrv7 := hid hrv7
                    replace S7 := hid S7
                    replace hlog7 := hid hlog7
                    clear c5 hsv7
                    go_wp2_with fail
                    have sm := hid (same_yes w7 _ _ _ hrv7.out (HR.out.below L7.out))
                    clear hrv7
                    refine sm.out.mono ?_
                    rintro e w8 ⟨rfl, m, rfl⟩
                    have c6 : Hid (Calls Tryz.prog 12 #[.pointer (some ⟨lb7, 0, none⟩)] (w7.drewN m) fun e w' => e = .returned (.int .i64 (l.length : Int)) ∧ w' = w7.drewN m) := lcount (w7.drewN m) (hlog7.out.keep rfl)
                    have c7 : Hid (Calls Tryz.prog 11 #[.pointer (some ⟨lb7, 0, none⟩)] (w7.drewN m) fun e w' => e = .returned (.int .i64 0) ∧ w' = w7.drewN m) := lnumber (w7.drewN m) (hlog7.out.keep rfl)
                    have E7 : Hid (BkT w.heap.size w sb 0 [] l (2 + (n + 1)) (1000 + 60 * (n + 1)) (w7.drewN m)) := by
                      obtain ⟨g, t, s, s', q1, q2, q3, q4, q5, q6⟩ := S7.out.bare.drew m
                      exact ⟨g, t, s, s', q1, q2, q3, q4, by omega, q6⟩
                    clear sm hlog7 S7 L7
                    generalize w7.drewN m = wE at *
                    go_wp2_with fail
                    refine c6.out.mono ?_
                    rintro e w9 ⟨rfl, rfl⟩
                    clear c6
                    go_wp2_with fail
                    refine c7.out.mono ?_
                    rintro e wA ⟨rfl, rfl⟩
                    clear c7
                    go_wp2
                    exact ⟨⟨n + 1, by omega, by simp, E7.out⟩, by simp only [intOf]; omega⟩
                  · have hn2' : ¬ (n : Int) < 2 := by omega
                    have c8 := hid (bk_openq hT (by omega) (by omega))
                    clear hT T0'
                    unfold ptr str at c8
                    go_wp2_with fail
                    refine c8.out.mono ?_
                    rintro e w8 ⟨lb8, sv8, rv8, rfl, L8, hr8, a8, d8, rfl⟩
                    obtain ⟨r1, r2, hr⟩ : ∃ r1 r2, rv8 = .slice r1 1 r2 := by obtain ⟨r1, r2, hr, _⟩ := hr8; exact ⟨r1, r2, hr⟩
                    subst hr
                    have sm := hid (same_yes _ _ _ _ (hr8.below (low_two w8 (.cells #[.int .u8 1] 5) (.cells #[.slice (some ⟨w8.heap.size, 0, none⟩) 1 1] 22))) (isR_lit1 w8))
                    have LE : Hid (∀ m, Below w.heap.size w (((w8.alloc (.cells #[.int .u8 1] 5)).alloc (.cells #[.slice (some ⟨w8.heap.size, 0, none⟩) 1 1] 22)).drewN m)) := fun m => low_drewN m _ (L8.trans ((low_two w8 _ _).mono L8.size))
                    clear c8 hr8 L8
                    go_wp2_with fail
                    generalize (w8.alloc (.cells #[.int .u8 1] 5)).alloc (.cells #[.slice (some ⟨w8.heap.size, 0, none⟩) 1 1] 22) = wD at *
                    refine sm.out.mono ?_
                    rintro e wE ⟨rfl, m, rfl⟩
                    clear sm
                    go_wp2
                    go_ret
                    exact ⟨rfl, LE.out m⟩
              · clear hno MADE
                go_wp2_with fail
                go_loopw [21] (fun iv wr => ∃ (n : Nat), n ≤ 2 ∧ iv = .int .i64 n ∧ BkT w.heap.size w sb 0 [] l (2 + n) (1000 + 60 * n) wr) (fun iv _ => 2 - (intOf iv).toNat)
                case atStart => exact ⟨0, by omega, rfl, T0'.out⟩
                case round =>
                  obtain ⟨n, hn, rfl, hT⟩ := hrel
                  by_cases hn2 : n < 2
                  · have hn2' : (n : Int) < 2 := by omega
                    have c5 := hid (bk_open hT (by omega) (by omega) H10.out)
                    clear hT T0'
                    unfold ptr str at c5
                    go_wp2_with fail
                    refine c5.out.mono ?_
                    rintro e w7 ⟨lb7, sv7, rv7, rfl, S7, hsv7, hrv7, hlog7⟩
                    obtain ⟨q1, q2, hq⟩ := hsv7.slice
                    rw [ints_len, List.length_nil] at hq
                    subst hq
                    obtain ⟨r1, r2, hr⟩ : ∃ r1 r2, rv7 = .slice r1 l.length r2 := by obtain ⟨r1, r2, hr, _⟩ := hrv7; exact ⟨r1, r2, hr⟩
                    subst hr
                    have L7 := hid S7.low
                    replace hrv7 := hid hrv7
                    replace S7 := hid S7
                    replace hlog7 := hid hlog7
                    clear c5 hsv7
                    go_wp2_with fail
                    have sm := hid (same_yes w7 _ _ _ hrv7.out (HR.out.below L7.out))
                    clear hrv7
                    refine sm.out.mono ?_
                    rintro e w8 ⟨rfl, m, rfl⟩
                    have c6 : Hid (Calls Tryz.prog 12 #[.pointer (some ⟨lb7, 0, none⟩)] (w7.drewN m) fun e w' => e = .returned (.int .i64 (l.length : Int)) ∧ w' = w7.drewN m) := lcount (w7.drewN m) (hlog7.out.keep rfl)
                    have c7 : Hid (Calls Tryz.prog 11 #[.pointer (some ⟨lb7, 0, none⟩)] (w7.drewN m) fun e w' => e = .returned (.int .i64 0) ∧ w' = w7.drewN m) := lnumber (w7.drewN m) (hlog7.out.keep rfl)
                    have E7 : Hid (BkT w.heap.size w sb 0 [] l (2 + (n + 1)) (1000 + 60 * (n + 1)) (w7.drewN m)) := by
                      obtain ⟨g, t, s, s', q1, q2, q3, q4, q5, q6⟩ := S7.out.bare.drew m
                      exact ⟨g, t, s, s', q1, q2, q3, q4, by omega, q6⟩
                    clear sm hlog7 S7 L7
                    generalize w7.drewN m = wE at *
                    go_wp2_with fail
                    refine c6.out.mono ?_
                    rintro e w9 ⟨rfl, rfl⟩
                    clear c6
                    go_wp2_with fail
                    refine c7.out.mono ?_
                    rintro e wA ⟨rfl, rfl⟩
                    clear c7
                    go_wp2
                    exact ⟨⟨n + 1, by omega, by simp, E7.out⟩, by simp only [intOf]; omega⟩
                  · have hn2' : ¬ (n : Int) < 2 := by omega
                    have c8 := hid (bk_openq hT (by omega) (by omega))
                    clear hT T0'
                    unfold ptr str at c8
                    go_wp2_with fail
                    refine c8.out.mono ?_
                    rintro e w8 ⟨lb8, sv8, rv8, rfl, L8, hr8, a8, d8, rfl⟩
                    obtain ⟨r1, r2, hr⟩ : ∃ r1 r2, rv8 = .slice r1 1 r2 := by obtain ⟨r1, r2, hr, _⟩ := hr8; exact ⟨r1, r2, hr⟩
                    subst hr
                    have sm := hid (same_yes _ _ _ _ (hr8.below (low_two w8 (.cells #[.int .u8 1] 5) (.cells #[.slice (some ⟨w8.heap.size, 0, none⟩) 1 1] 22))) (isR_lit1 w8))
                    have LE : Hid (∀ m, Below w.heap.size w (((w8.alloc (.cells #[.int .u8 1] 5)).alloc (.cells #[.slice (some ⟨w8.heap.size, 0, none⟩) 1 1] 22)).drewN m)) := fun m => low_drewN m _ (L8.trans ((low_two w8 _ _).mono L8.size))
                    clear c8 hr8 L8
                    go_wp2_with fail
                    generalize (w8.alloc (.cells #[.int .u8 1] 5)).alloc (.cells #[.slice (some ⟨w8.heap.size, 0, none⟩) 1 1] 22) = wD at *
                    refine sm.out.mono ?_
                    rintro e wE ⟨rfl, m, rfl⟩
                    clear sm
                    go_wp2
                    go_ret
                    exact ⟨rfl, LE.out m⟩
            · have hk' : (k : Int) < (l.length : Int) := by omega
              rw [List.take_length] at hS
              have T0' : Hid (BkT w.heap.size w sb 1 sn (l.drop (k + 1)) 4 1000 wr) := by
                obtain ⟨g, t, s, s', q1, q2, q3, q4, q5, q6⟩ := hS.bare
                exact ⟨g, t, s, s', q1, q2, q3, q4, by omega, q6⟩
              clear hS
              have HD : Hid (∀ p ∈ l.drop (k + 1), p.length ≤ 10000) := fun p hp => H10.out p (List.mem_of_mem_drop hp)
              obtain ⟨b, off, _, _, rfl, _, _⟩ := isR_at HR.out (i := k) (by omega)
              have hcap : l.length ≤ c := by obtain ⟨_, _, e, h1, _⟩ := HR.out; cases e; exact h1
              go_wp2_with fail
              go_loopw [21] (fun iv wr => ∃ (n : Nat), n ≤ 2 ∧ iv = .int .i64 n ∧ BkT w.heap.size w sb 1 sn (l.drop (k + 1)) (4 + n) (1000 + 60 * n) wr) (fun iv _ => 2 - (intOf iv).toNat)
              case atStart => exact ⟨0, by omega, rfl, T0'.out⟩
              case round =>
                obtain ⟨n, hn, rfl, hT⟩ := hrel
                by_cases hn2 : n < 2
                · have hn2' : (n : Int) < 2 := by omega
                  have c5 := hid (bk_open hT (by omega) (by omega) HD.out)
                  clear hT T0'
                  unfold ptr str at c5
                  go_wp2_with fail
                  refine c5.out.mono ?_
                  rintro e w7 ⟨lb7, sv7, rv7, rfl, S7, hsv7, hrv7, hlog7⟩
                  have cv1 : (convert 22 9 sv7).run Tryz.prog w7 = .ok (str sn) w7 := conv5 hsv7
                  have cv2 : (convert 22 9 (.slice sa sn.length sc)).run Tryz.prog w7 = .ok (str sn) w7 := conv5 (HB.out.below S7.low)
                  obtain ⟨q1, q2, hq⟩ := hsv7.slice
                  rw [ints_len] at hq
                  subst hq
                  obtain ⟨r1, r2, hr⟩ : ∃ r1 r2, rv7 = .slice r1 (l.length - (k + 1)) r2 := by obtain ⟨r1, r2, hr, _⟩ := hrv7; rw [List.length_drop] at hr; exact ⟨r1, r2, hr⟩
                  subst hr
                  have L7 := hid S7.low
                  replace hrv7 := hid hrv7
                  replace S7 := hid S7
                  replace hlog7 := hid hlog7
                  clear c5 hsv7
                  unfold str at cv1 cv2
                  go_wp2_with fail
                  · have hck : c = k + 1 := by assumption
                    subst hck
                    have sm := hid (same_yes w7 _ _ _ hrv7.out (show IsR w7 (.slice (some ⟨b, off, none⟩) (l.length - (k + 1)) 0) (l.drop (k + 1)) by rw [show l.length = k + 1 by omega, Nat.sub_self, List.drop_of_length_le (by omega)]; exact isR_none _ _))
                    clear hrv7
                    refine sm.out.mono ?_
                    rintro e w8 ⟨rfl, m, rfl⟩
                    have c6 : Hid (Calls Tryz.prog 12 #[.pointer (some ⟨lb7, 0, none⟩)] (w7.drewN m) fun e w' => e = .returned (.int .i64 ((l.length : Int) - ((k : Int) + 1))) ∧ w' = w7.drewN m) := by
                      have := lcount (w7.drewN m) (hlog7.out.keep rfl)
                      simp only [List.length_drop] at this
                      rw [show ((l.length - (k + 1) : Nat) : Int) = (l.length : Int) - ((k : Int) + 1) by omega] at this
                      exact this
                    have c7 : Hid (Calls Tryz.prog 11 #[.pointer (some ⟨lb7, 0, none⟩)] (w7.drewN m) fun e w' => e = .returned (.int .i64 1) ∧ w' = w7.drewN m) := lnumber (w7.drewN m) (hlog7.out.keep rfl)
                    have E7 : Hid (BkT w.heap.size w sb 1 sn (l.drop (k + 1)) (4 + (n + 1)) (1000 + 60 * (n + 1)) (w7.drewN m)) := by
                      obtain ⟨g, t, s, s', q1, q2, q3, q4, q5, q6⟩ := S7.out.bare.drew m
                      exact ⟨g, t, s, s', q1, q2, q3, q4, by omega, q6⟩
                    clear sm hlog7 S7 L7
                    generalize w7.drewN m = wE at *
                    go_wp2_with fail
                    refine c6.out.mono ?_
                    rintro e w9 ⟨rfl, rfl⟩
                    clear c6
                    go_wp2_with fail
                    refine c7.out.mono ?_
                    rintro e wA ⟨rfl, rfl⟩
                    clear c7
                    go_wp2
                    exact ⟨⟨n + 1, by omega, by simp, E7.out⟩, by simp only [intOf]; omega⟩
                  · have sm := hid (same_yes w7 _ _ _ hrv7.out (isR_drop (HR.out.below L7.out) (k := k + 1) (by omega)))
                    clear hrv7
                    refine sm.out.mono ?_
                    rintro e w8 ⟨rfl, m, rfl⟩
                    have c6 : Hid (Calls Tryz.prog 12 #[.pointer (some ⟨lb7, 0, none⟩)] (w7.drewN m) fun e w' => e = .returned (.int .i64 ((l.length : Int) - ((k : Int) + 1))) ∧ w' = w7.drewN m) := by
                      have := lcount (w7.drewN m) (hlog7.out.keep rfl)
                      simp only [List.length_drop] at this
                      rw [show ((l.length - (k + 1) : Nat) : Int) = (l.length : Int) - ((k : Int) + 1) by omega] at this
                      exact this
                    have c7 : Hid (Calls Tryz.prog 11 #[.pointer (some ⟨lb7, 0, none⟩)] (w7.drewN m) fun e w' => e = .returned (.int .i64 1) ∧ w' = w7.drewN m) := lnumber (w7.drewN m) (hlog7.out.keep rfl)
                    have E7 : Hid (BkT w.heap.size w sb 1 sn (l.drop (k + 1)) (4 + (n + 1)) (1000 + 60 * (n + 1)) (w7.drewN m)) := by
                      obtain ⟨g, t, s, s', q1, q2, q3, q4, q5, q6⟩ := S7.out.bare.drew m
                      exact ⟨g, t, s, s', q1, q2, q3, q4, by omega, q6⟩
                    clear sm hlog7 S7 L7
                    generalize w7.drewN m = wE at *
                    go_wp2_with fail
                    refine c6.out.mono ?_
                    rintro e w9 ⟨rfl, rfl⟩
                    clear c6
                    go_wp2_with fail
                    refine c7.out.mono ?_
                    rintro e wA ⟨rfl, rfl⟩
                    clear c7
                    go_wp2
                    exact ⟨⟨n + 1, by omega, by simp, E7.out⟩, by simp only [intOf]; omega⟩
                · have hn2' : ¬ (n : Int) < 2 := by omega
                  have c8 := hid (bk_openq hT (by omega) (by omega))
                  clear hT T0'
                  unfold ptr str at c8
                  go_wp2_with fail
                  refine c8.out.mono ?_
                  rintro e w8 ⟨lb8, sv8, rv8, rfl, L8, hr8, a8, d8, rfl⟩
                  obtain ⟨r1, r2, hr⟩ : ∃ r1 r2, rv8 = .slice r1 1 r2 := by obtain ⟨r1, r2, hr, _⟩ := hr8; exact ⟨r1, r2, hr⟩
                  subst hr
                  have sm := hid (same_yes _ _ _ _ (hr8.below (low_two w8 (.cells #[.int .u8 1] 5) (.cells #[.slice (some ⟨w8.heap.size, 0, none⟩) 1 1] 22))) (isR_lit1 w8))
                  have LE : Hid (∀ m, Below w.heap.size w (((w8.alloc (.cells #[.int .u8 1] 5)).alloc (.cells #[.slice (some ⟨w8.heap.size, 0, none⟩) 1 1] 22)).drewN m)) := fun m => low_drewN m _ (L8.trans ((low_two w8 _ _).mono L8.size))
                  clear c8 hr8 L8
                  go_wp2_with fail
                  generalize (w8.alloc (.cells #[.int .u8 1] 5)).alloc (.cells #[.slice (some ⟨w8.heap.size, 0, none⟩) 1 1] 22) = wD at *
                  refine sm.out.mono ?_
                  rintro e wE ⟨rfl, m, rfl⟩
                  clear sm
                  go_wp2
                  go_ret
                  exact ⟨rfl, LE.out m⟩
end Go.Proofs.YtihgikekkgoddaaGreatDoor
