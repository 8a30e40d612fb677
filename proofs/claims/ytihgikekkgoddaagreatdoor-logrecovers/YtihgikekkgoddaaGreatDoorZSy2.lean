/- LogSynced's walk. -/
import Derived.Test.YtihgikekkgoddaaGreatDoorZSy1
namespace Go.Proofs.YtihgikekkgoddaaGreatDoor
open Go.RowKit Go.Shelf Sto

/-- the record at i. -/
theorem isR_at {w : World} {a : Option Addr} {c : Nat} {l : List (List UInt8)} (h : IsR w (.slice a l.length c) l) {i : Nat} (hi : i < l.length) : ∃ b off ua uc, a = some ⟨b, off, none⟩ ∧ w.cell? ⟨b, off + i, none⟩ = some (.slice ua l[i].length uc) ∧ Frm.IsB w (.slice ua l[i].length uc) (ints l[i]) := by
  obtain ⟨a', c', e, _, _, h3⟩ := h
  cases e
  rcases h3 with rfl | ⟨b, off, rfl, h4⟩
  · simp at hi
  · obtain ⟨u, h5, h6⟩ := h4 i hi
    obtain ⟨ua, uc, rfl⟩ := h6.slice
    rw [ints_len] at h5 h6
    exact ⟨b, off, ua, uc, rfl, h5, h6⟩
theorem isR_take {w : World} {a : Option Addr} {c : Nat} {l : List (List UInt8)} (h : IsR w (.slice a l.length c) l) {k : Nat} (hk : k ≤ l.length) : IsR w (.slice a k c) (l.take k) := by
  obtain ⟨a', c', e, h1, h2, h3⟩ := h
  cases e
  have hlen : (l.take k).length = k := by rw [List.length_take]; omega
  refine ⟨a, c, by rw [hlen], by omega, h2, ?_⟩
  rcases h3 with rfl | ⟨b, off, rfl, h4⟩
  · left; simp
  · right
    refine ⟨b, off, rfl, fun i hi => ?_⟩
    rw [hlen] at hi
    obtain ⟨u, h5, h6⟩ := h4 i (by omega)
    exact ⟨u, h5, by rw [List.getElem_take]; exact h6⟩
theorem mod_small (z : Int) (n : Nat) (hn : n < 1000000) : ∃ k : Nat, k ≤ n ∧ wrap64 ((IntKind.u64.wrap z).tmod ((n : Int) + 1)) = (k : Int) := by
  have h0 : 0 ≤ IntKind.u64.wrap z := by
    show 0 ≤ z % (2 ^ 64 : Int)
    omega
  have h1 : 0 ≤ (IntKind.u64.wrap z).tmod ((n : Int) + 1) := Int.tmod_nonneg _ h0
  have h2 : (IntKind.u64.wrap z).tmod ((n : Int) + 1) < (n : Int) + 1 := Int.tmod_lt_of_pos _ (by omega)
  generalize (IntKind.u64.wrap z).tmod ((n : Int) + 1) = q at *
  refine ⟨q.toNat, by omega, ?_⟩
  unfold wrap64
  omega
/-- how many bytes are safe ahead of the record at i, the one at k being the first that is behind the sync. -/
def mark (l : List (List UInt8)) (k i : Nat) : Nat := if k < i then (encs (l.take k)).length else 0
theorem mark_next {l : List (List UInt8)} {k i : Nat} (h : ¬ i = k) : mark l k (i + 1) = mark l k i := by
  unfold mark
  by_cases hk : k < i
  · rw [if_pos hk, if_pos (by omega)]
  · rw [if_neg hk, if_neg (by omega)]
theorem ends_cells {B : Nat} {W : World} {l : List (List UInt8)} {m y : Nat} {x : Option Addr} (h : W.ownsRow B 3 1 (.slice x (m + 1) y) (m + 1) (ends l (m + 1))) : ∃ g, x = some ⟨g, 0, none⟩ ∧ ∀ j, j < m + 1 → W.cell? ⟨g, j, none⟩ = some (.int .i64 ((encs (l.take j)).length : Int)) := by
  rcases h.2 with ⟨e, h0⟩ | ⟨g, cap, cur, e, _⟩
  · omega
  · cases e
    refine ⟨g, rfl, fun j hj => ?_⟩
    have := h.cells (g := g) rfl j (.int .i64 ((encs (l.take j)).length : Int)) (by unfold ends; simp [hj])
    rwa [Addr.add_lit, Nat.zero_add] at this
set_option maxRecDepth 100000 in
set_option maxHeartbeats 8000000 in
theorem logSynced_walk (vl : Value) (l : List (List UInt8)) (sy su : Int) (w : World) (hR : IsR w vl l) : Calls Tryz.prog 6 #[vl, .int .i64 sy, .int .i64 su] w fun e w' => e = .returned (.bool true) ∧ Below w.heap.size w w' := by
  obtain ⟨a, c, rfl⟩ : ∃ a c, vl = .slice a l.length c := by obtain ⟨a, c, e, _⟩ := hR; exact ⟨a, c, e⟩
  have hmax : l.length ≤ maxLen := by obtain ⟨a', c', e, h1, h2, _⟩ := hR; omega
  unfold maxLen at hmax
  have HR := hid hR
  clear hR
  by_cases h40 : 40 < l.length
  · have h1 : (40 : Int) < (l.length : Int) := by omega
    clear HR
    go_enter Tryz.func6, Tryz.ntmps6
    go_wp2
    go_ret
    exact ⟨rfl, Below.refl _ _⟩
  have h1 : ¬ (40 : Int) < (l.length : Int) := by omega
  go_enter Tryz.func6, Tryz.ntmps6
  go_wp2_with fail
  go_loopw [7] (fun iv wr => ∃ (i : Nat), i ≤ l.length ∧ iv = .int .i64 i ∧ wr = w ∧ ∀ j (hj : j < l.length), j < i → l[j].length ≤ 50) (fun iv _ => l.length - (intOf iv).toNat)
  case atStart => exact ⟨0, by omega, rfl, rfl, fun j _ hj => by omega⟩
  case round =>
    rename_i wr
    obtain ⟨i, hi, rfl, hw, h50⟩ := hrel
    obtain rfl := hw.symm
    replace h50 := hid h50
    by_cases hlt : i < l.length
    · have hlt' : (i : Int) < (l.length : Int) := by omega
      obtain ⟨b, off, ua, uc, rfl, hcell, hB⟩ := isR_at HR.out hlt
      replace hB := hid hB
      by_cases hlen : 50 < l[i].length
      · have hlen' : (50 : Int) < (l[i].length : Int) := by omega
        clear HR
        generalize l[i].length = z at *
        go_wp2
        go_ret
        exact ⟨rfl, Below.refl _ _⟩
      · have hlen' : ¬ (50 : Int) < (l[i].length : Int) := by omega
        have h51 : Hid (∀ j (hj : j < l.length), j < i + 1 → l[j].length ≤ 50) := by
          intro j hj hji
          rcases Nat.lt_or_ge j i with h | h
          · exact h50.out j hj h
          · obtain rfl : j = i := by omega
            omega
        clear HR h50
        generalize l[i].length = z at *
        go_wp2
        refine ⟨⟨i + 1, by omega, by simp, trivial, h51.out⟩, ?_⟩
        simp only [intOf]; omega
    · have hlt' : ¬ (i : Int) < (l.length : Int) := by omega
      have H50 : Hid (∀ p ∈ l, p.length ≤ 50) := by
        intro p hp
        obtain ⟨j, hj, rfl⟩ := List.mem_iff_getElem.1 hp
        exact h50.out j hj (by omega)
      clear h50
      obtain rfl : i = l.length := by omega
      go_wp2_with fail
      refine (new_t w).mono ?_
      rintro e w1 ⟨rfl, hI1, hb1, hs1⟩
      have ho1 := hid (open_live w1 hI1 (rs_empty (p := []) (by simp)) rfl (by omega) (by simp))
      have hI1' := hid hI1
      have B1 := hid hb1
      clear hb1 hs1 hI1
      unfold ptr str at ho1
      unfold ptr
      generalize w.heap.size + 1 = sb at *
      go_wp2_with fail
      refine ho1.out.mono ?_
      rintro e w2 ⟨lb, sv, rv, t2, g2, recs2, rfl, h2⟩
      obtain rfl := read8_nil h2.reads
      obtain ⟨sa, sc, rfl⟩ := h2.snap.own.slice
      obtain ⟨ra, rc, rfl⟩ := h2.recs.recs.slice
      obtain ⟨f2, hf2⟩ := h2.has
      have acts2 := h2.acts
      simp only [Nat.zero_add] at acts2
      have B2 : Below w.heap.size w w2 := B1.out.trans (h2.kept.below hI1'.out.2.2 (fun k hk => hI1'.out.1.base k hk))
      have S0 : Hid (SyS w.heap.size w lb sb l 0 0 1 300 (.slice (some ⟨w2.heap.size, 0, none⟩) 1 1) (w2.alloc (.cells #[.int .i64 0] 3))) := by
        have hal := alloc_low w2 (.cells #[.int .i64 0] 3)
        have hbo := h2.bo.below hal
        refine ⟨g2, t2, f2, hbo, h2.rs, h2.lv, hf2, by omega, B2.trans (hal.mono B2.size), ?_, fun b hb hf => ?_⟩
        · exact World.ownsRow_lit (base := w.heap.size) (e := 3) (size := 1) w2 #[.int .i64 0] 1 B2.size (by unfold maxLen; omega) rfl
        · have : b = w2.heap.size := by simpa [Value.ownBlock] using hb.symm
          have := h2.bo.lt hf
          omega
      clear ho1 B1 h2 hI1' B2 acts2 hf2
      obtain ⟨k, hk, ek⟩ := mod_small sy l.length (by omega)
      go_wp2_with fail
      rw [ek]
      clear ek
      generalize w2.alloc (.cells #[.int .i64 0] 3) = w3 at *
      go_loopw [13, 14] (fun ev iv wr => ∃ (i : Nat), i ≤ l.length ∧ iv = .int .i64 i ∧ (∃ x y, ev = .slice x (i + 1) y) ∧ SyS w.heap.size w lb sb l i (mark l k i) (i + 1) (300 + 2 * i) ev wr) (fun _ iv _ => l.length - (intOf iv).toNat)
      case atStart => exact ⟨0, by omega, rfl, ⟨_, _, rfl⟩, by rw [show mark l k 0 = 0 by unfold mark; simp]; exact S0.out⟩
      case round =>
        rename_i ev _ wr
        obtain ⟨i, hi, rfl, ⟨x, y, rfl⟩, hS⟩ := hrel
        by_cases hlt : i < l.length
        · have hlt' : (i : Int) < (l.length : Int) := by omega
          obtain ⟨b, off, ua, uc, rfl, _, _⟩ := isR_at HR.out hlt
          have AT : Hid (∀ W, Below w.heap.size w W → ∃ ua uc, W.cell? ⟨b, off + i, none⟩ = some (.slice ua l[i].length uc) ∧ Frm.IsB W (.slice ua l[i].length uc) (ints l[i])) := by
            intro W hW
            obtain ⟨b', off', ua, uc, e, h1, h2⟩ := isR_at (HR.out.below hW) hlt
            cases e
            exact ⟨ua, uc, h1, h2⟩
          have step : Hid (∀ s A W, A ≤ 100000 → SyS w.heap.size w lb sb l i s (i + 1) A (.slice x (i + 1) y) W → ∀ ua uc, Frm.IsB W (.slice ua l[i].length uc) (ints l[i]) → Calls Tryz.prog 8 #[ptr lb, .slice ua l[i].length uc] W fun e w' => e = .returned (.int .i64 0) ∧ SyS w.heap.size w lb sb l (i + 1) s (i + 1) (A + 1) (.slice x (i + 1) y) w') := fun s A W hA h ua uc hB => sy_append h hA (by omega) H50.out hlt _ hB
          unfold ptr at step
          by_cases hik : i = k
          · subst hik
            have c1 := hid (sy_sync hS (by omega))
            unfold ptr at c1
            clear hS S0
            go_wp2_with fail
            refine c1.out.mono ?_
            rintro e w4 ⟨rfl, S4⟩
            obtain ⟨ua4, uc4, hc4, hB4⟩ := AT.out _ S4.low
            have c2 := hid (step.out _ _ _ (by omega) S4 _ _ hB4)
            clear c1 S4 hB4 step
            go_wp2_with fail
            refine c2.out.mono ?_
            rintro e w5 ⟨rfl, S5⟩
            have c3 := hid (sy_size S5)
            unfold ptr str at c3
            clear c2 S5
            go_wp2_with fail
            refine c3.out.mono ?_
            rintro e w6 ⟨rfl, S6⟩
            obtain ⟨x7, y7, w7, run7, S7⟩ := sy_push S6 (by omega)
            clear c3 S6
            go_wp2_with (at_builtin; refine wpList_append_run _ rfl _ _ 41 rfl _ _ _ _ rfl rfl run7 ?_)
            refine ⟨⟨i + 1, by omega, by simp, ⟨x7, y7, rfl⟩, ?_⟩, by simp only [intOf]; omega⟩
            rw [show mark l i (i + 1) = (encs (l.take i)).length by unfold mark; rw [if_pos (by omega)]]
            exact S7
          · have hik' : ¬ (i : Int) = (k : Int) := by omega
            obtain ⟨ua4, uc4, hc4, hB4⟩ := AT.out _ hS.low
            have c2 := hid (step.out _ _ _ (by omega) hS _ _ hB4)
            clear hS hB4 step S0
            go_wp2_with fail
            refine c2.out.mono ?_
            rintro e w5 ⟨rfl, S5⟩
            have c3 := hid (sy_size S5)
            unfold ptr str at c3
            clear c2 S5
            go_wp2_with fail
            refine c3.out.mono ?_
            rintro e w6 ⟨rfl, S6⟩
            obtain ⟨x7, y7, w7, run7, S7⟩ := sy_push S6 (by omega)
            clear c3 S6
            go_wp2_with (at_builtin; refine wpList_append_run _ rfl _ _ 41 rfl _ _ _ _ rfl rfl run7 ?_)
            refine ⟨⟨i + 1, by omega, by simp, ⟨x7, y7, rfl⟩, ?_⟩, by simp only [intOf]; omega⟩
            rw [mark_next hik]
            obtain ⟨g, t, f, q1, q2, q3, q4, q5, q6⟩ := S7
            exact ⟨g, t, f, q1, q2, q3, q4, by omega, q6⟩
        · obtain rfl : i = l.length := by omega
          clear S0
          by_cases hkl : k = l.length
          · subst hkl
            have c9 := hid (sy_sync hS (by omega))
            unfold ptr at c9
            clear hS
            go_wp2_with fail
            refine c9.out.mono ?_
            rintro e w9 ⟨rfl, S9⟩
            clear c9
            obtain ⟨q, hq, eq⟩ := mod_small su 2999 (by omega)
            rw [show ((2999 : Nat) : Int) + 1 = 3000 from rfl] at eq
            have c4 := hid (sy_crash S9 (by exact encs_mono hk) q (by omega))
            unfold ptr at c4
            clear S9
            go_wp2_with fail
            rw [eq]
            refine c4.out.mono ?_
            rintro e w8 ⟨rfl, L8, row8, g8, t8, is8, ⟨s8, rs8⟩, lv8, ac8⟩
            rw [List.take_length] at rs8
            obtain ⟨gx, rfl, hcx⟩ := ends_cells row8
            have D8 : ∀ m, Below w8.heap.size w8 (w8.drewN m) := fun m => low_drewN m _ (Below.refl _ _)
            have L8' : Hid (∀ m, Below w.heap.size w (w8.drewN m)) := fun m => low_drewN m _ L8
            have o8 : Hid (∀ m, _) := fun m => open_live (w8.drewN m) (is8.below (D8 m)) rs8 lv8 (by omega) (by omega)
            have is8' : Hid (∀ m, Is w.heap.size (w8.drewN m) sb g8 t8) := fun m => is8.below (D8 m)
            clear D8
            unfold ptr str at o8
            replace hcx := hid hcx
            clear c4 row8 rs8 is8 L8 eq
            have hb := encs_take_le H50.out (by omega) l.length
            go_wp2_with fail
            go_loopw [17] (fun iv wr => ∃ (n m : Nat), l.length ≤ n ∧ n ≤ l.length ∧ iv = .int .i64 n ∧ wr = w8.drewN m ∧ (encs (l.take n)).length ≤ (encs (l.take l.length)).length + q) (fun iv _ => l.length - (intOf iv).toNat)
            case atStart => exact ⟨l.length, 0, by omega, by omega, rfl, rfl, by omega⟩
            case round =>
              obtain ⟨n, m, hkn, hn, rfl, hw, hen⟩ := hrel
              subst hw
              replace hen := hid hen
              by_cases hnl : n < l.length
              · exact absurd hnl (by omega)
              · have hnl' : ¬ (n : Int) < (l.length : Int) := by omega
                have STOP : Hid (n < l.length → (encs (l.take l.length)).length + q < (encs (l.take (n + 1))).length) := fun h => absurd h hnl
                clear hcx
                go_wp2_with fail
                go_region
                all_goals
                  go_wp2_with fail
                  refine (o8.out (m + 1)).mono ?_
                  rintro e w10 ⟨lbX, svX, rvX, tX, gX, recsX, rfl, hX⟩
                  have BX : Hid (Below w.heap.size w w10) := (L8'.out (m + 1)).trans (hX.kept.below (is8'.out (m + 1)).2.2 (fun kk hkk => (is8'.out (m + 1)).1.base kk hkk))
                  obtain rfl : recsX = l.take n := sy_reads H50.out hkn hn hen.out STOP.out (by rw [List.take_length]; exact hX.reads)
                  have RX := recs_isR hX.recs.recs
                  obtain ⟨saX, scX, rfl⟩ := hX.snap.own.slice
                  obtain ⟨raX, rcX, hrv⟩ := hX.recs.recs.slice
                  rw [show ((l.take n).map ints).length = n by rw [List.length_map, List.length_take]; omega] at hrv
                  subst hrv
                  have sm := hid (same_yes w10 _ _ _ RX (isR_take (HR.out.below BX.out) hn))
                  have hcap : (n : Int) ≤ (c : Int) := by obtain ⟨_, _, e, h1, _⟩ := HR.out; cases e; omega
                  clear hX RX o8 is8' L8'
                  go_wp2_with fail
                  refine sm.out.mono ?_
                  rintro e w11 ⟨rfl, m2, rfl⟩
                  clear sm
                  go_wp2
                  go_ret
                  exact ⟨rfl, low_drewN m2 _ BX.out⟩
          · have hkl' : ¬ (k : Int) = (l.length : Int) := by omega
            have S9 : SyS w.heap.size w lb sb l l.length (encs (l.take k)).length (l.length + 1) (300 + 2 * l.length) (.slice x (l.length + 1) y) wr := by
              have e : mark l k l.length = (encs (l.take k)).length := by unfold mark; rw [if_pos (by omega)]
              rw [e] at hS; exact hS
            clear hS
            obtain ⟨q, hq, eq⟩ := mod_small su 2999 (by omega)
            rw [show ((2999 : Nat) : Int) + 1 = 3000 from rfl] at eq
            have c4 := hid (sy_crash S9 (by exact encs_mono hk) q (by omega))
            unfold ptr at c4
            clear S9
            go_wp2_with fail
            rw [eq]
            refine c4.out.mono ?_
            rintro e w8 ⟨rfl, L8, row8, g8, t8, is8, ⟨s8, rs8⟩, lv8, ac8⟩
            rw [List.take_length] at rs8
            obtain ⟨gx, rfl, hcx⟩ := ends_cells row8
            have D8 : ∀ m, Below w8.heap.size w8 (w8.drewN m) := fun m => low_drewN m _ (Below.refl _ _)
            have L8' : Hid (∀ m, Below w.heap.size w (w8.drewN m)) := fun m => low_drewN m _ L8
            have o8 : Hid (∀ m, _) := fun m => open_live (w8.drewN m) (is8.below (D8 m)) rs8 lv8 (by omega) (by omega)
            have is8' : Hid (∀ m, Is w.heap.size (w8.drewN m) sb g8 t8) := fun m => is8.below (D8 m)
            clear D8
            unfold ptr str at o8
            replace hcx := hid hcx
            clear c4 row8 rs8 is8 L8 eq
            have hb := encs_take_le H50.out (by omega) k
            go_wp2_with fail
            go_loopw [17] (fun iv wr => ∃ (n m : Nat), k ≤ n ∧ n ≤ l.length ∧ iv = .int .i64 n ∧ wr = w8.drewN m ∧ (encs (l.take n)).length ≤ (encs (l.take k)).length + q) (fun iv _ => l.length - (intOf iv).toNat)
            case atStart => exact ⟨k, 0, by omega, by omega, rfl, rfl, by omega⟩
            case round =>
              obtain ⟨n, m, hkn, hn, rfl, hw, hen⟩ := hrel
              subst hw
              replace hen := hid hen
              by_cases hnl : n < l.length
              · have hnl' : (n : Int) < (l.length : Int) := by omega
                have e1 := hcx.out (n + 1) (by omega)
                have e2 := hcx.out k (by omega)
                have hb2 := encs_take_le H50.out (by omega) (n + 1)
                by_cases hle : (encs (l.take (n + 1))).length ≤ (encs (l.take k)).length + q
                · have hle' : ((encs (l.take (n + 1))).length : Int) ≤ ((encs (l.take k)).length : Int) + (q : Int) := by omega
                  have NX : Hid (∃ (n_1 : Nat), k ≤ n_1 ∧ n_1 ≤ l.length ∧ ((n : Int) + 1 = n_1) ∧ (encs (l.take n_1)).length ≤ (encs (l.take k)).length + q) := ⟨n + 1, by omega, by omega, by omega, hle⟩
                  clear hcx hen o8 HR
                  generalize (encs (l.take (n + 1))).length = E1 at *
                  generalize (encs (l.take k)).length = E2 at *
                  go_wp2_with fail
                  go_region
                  all_goals
                    go_wp2
                    obtain ⟨n1, p1, p2, p3, p4⟩ := NX.out
                    rw [p3]
                    exact ⟨⟨n1, m + 1, p1, p2, rfl, rfl, p4⟩, by simp only [intOf]; omega⟩
                · have hle' : ¬ ((encs (l.take (n + 1))).length : Int) ≤ ((encs (l.take k)).length : Int) + (q : Int) := by omega
                  have STOP : Hid (n < l.length → (encs (l.take k)).length + q < (encs (l.take (n + 1))).length) := fun _ => by omega
                  clear hcx
                  generalize eE1 : (encs (l.take (n + 1))).length = E1 at hle hle' e1 hb2
                  generalize eE2 : (encs (l.take k)).length = E2 at hle hle' e2 hb
                  replace eE1 := hid eE1
                  replace eE2 := hid eE2
                  go_wp2_with fail
                  go_region
                  all_goals
                    go_wp2_with fail
                    refine (o8.out (m + 1)).mono ?_
                    rintro e w10 ⟨lbX, svX, rvX, tX, gX, recsX, rfl, hX⟩
                    have BX : Hid (Below w.heap.size w w10) := (L8'.out (m + 1)).trans (hX.kept.below (is8'.out (m + 1)).2.2 (fun kk hkk => (is8'.out (m + 1)).1.base kk hkk))
                    obtain rfl : recsX = l.take n := sy_reads H50.out hkn hn hen.out STOP.out hX.reads
                    have RX := recs_isR hX.recs.recs
                    obtain ⟨saX, scX, rfl⟩ := hX.snap.own.slice
                    obtain ⟨raX, rcX, hrv⟩ := hX.recs.recs.slice
                    rw [show ((l.take n).map ints).length = n by rw [List.length_map, List.length_take]; omega] at hrv
                    subst hrv
                    have sm := hid (same_yes w10 _ _ _ RX (isR_take (HR.out.below BX.out) hn))
                    have hcap : (n : Int) ≤ (c : Int) := by obtain ⟨_, _, e, h1, _⟩ := HR.out; cases e; omega
                    clear hX RX o8 is8' L8'
                    go_wp2_with fail
                    refine sm.out.mono ?_
                    rintro e w11 ⟨rfl, m2, rfl⟩
                    clear sm
                    go_wp2
                    go_ret
                    exact ⟨rfl, low_drewN m2 _ BX.out⟩
              · have hnl' : ¬ (n : Int) < (l.length : Int) := by omega
                have STOP : Hid (n < l.length → (encs (l.take k)).length + q < (encs (l.take (n + 1))).length) := fun h => absurd h hnl
                clear hcx
                go_wp2_with fail
                go_region
                all_goals
                  go_wp2_with fail
                  refine (o8.out (m + 1)).mono ?_
                  rintro e w10 ⟨lbX, svX, rvX, tX, gX, recsX, rfl, hX⟩
                  have BX : Hid (Below w.heap.size w w10) := (L8'.out (m + 1)).trans (hX.kept.below (is8'.out (m + 1)).2.2 (fun kk hkk => (is8'.out (m + 1)).1.base kk hkk))
                  obtain rfl : recsX = l.take n := sy_reads H50.out hkn hn hen.out STOP.out hX.reads
                  have RX := recs_isR hX.recs.recs
                  obtain ⟨saX, scX, rfl⟩ := hX.snap.own.slice
                  obtain ⟨raX, rcX, hrv⟩ := hX.recs.recs.slice
                  rw [show ((l.take n).map ints).length = n by rw [List.length_map, List.length_take]; omega] at hrv
                  subst hrv
                  have sm := hid (same_yes w10 _ _ _ RX (isR_take (HR.out.below BX.out) hn))
                  have hcap : (n : Int) ≤ (c : Int) := by obtain ⟨_, _, e, h1, _⟩ := HR.out; cases e; omega
                  clear hX RX o8 is8' L8'
                  go_wp2_with fail
                  refine sm.out.mono ?_
                  rintro e w11 ⟨rfl, m2, rfl⟩
                  clear sm
                  go_wp2
                  go_ret
                  exact ⟨rfl, low_drewN m2 _ BX.out⟩
end Go.Proofs.YtihgikekkgoddaaGreatDoor
