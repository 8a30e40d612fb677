/- The document's reader: how it lies in memory; contract of its number. -/
import Derived.Test.YthhfahnlcoiblaaFm
import Derived.Deep.RegionHeld3
namespace Go.Proofs.Ythhfahnlcoiblaa
open Go.RowKit

structure RefAt (w : World) (q : Nat) (bs : Value) (z : List Int) (at_ : Nat) (fl : Bool) : Prop where
  cell : w.heap[q]? = some (.cells #[bs, .int .i64 (at_ : Int), .bool fl] 40)
  b : IsB w bs z
  le : at_ ≤ z.length
  few : z.length ≤ 20000
theorem RefAt.below {w w' : World} {q : Nat} {bs : Value} {z : List Int} {at_ : Nat} {fl : Bool} (h : RefAt w q bs z at_ fl) (hb : Below w.heap.size w w') : RefAt w' q bs z at_ fl :=
  ⟨(hb.block q (lt_of_block h.cell)).trans h.cell, h.b.below hb, h.le, h.few⟩
theorem num_try {D : List Int} {k v : Nat} (hk : k ≤ D.length) (hv : v < 18446744073709551616) (h : vi v = D.take k) : numP D = some (v, k) := by
  have e : D = vi v ++ D.drop k := by rw [h, List.take_append_drop]
  have hl : (vi v).length = k := by rw [h]; simp; omega
  rw [e, numP_vi hv, hl]
theorem num_none {D : List Int} (hb : Byt D) (h : ∀ k, 1 ≤ k → k ≤ 10 → k ≤ D.length → vi (val (D.take k) % 18446744073709551616) ≠ D.take k) : numP D = none := by
  cases hn : numP D with
  | none => rfl
  | some x =>
    obtain ⟨n, k⟩ := x
    obtain ⟨h1, h2, h3, h4⟩ := numP_len hb hn
    have h5 := (numP_some hb hn).1
    refine absurd ?_ (h k (by omega) h2 h3)
    rw [h4, val_vi n n (Nat.le_refl _), Nat.mod_eq_of_lt h5]
theorem val_drop (D : List Int) (m : Nat) (hm : m < D.length) : val (D.drop m) = (D.getD m 0 % 128).toNat + 128 * val (D.drop (m + 1)) := by
  rw [List.drop_eq_getElem_cons hm, val]
  simp [List.getD, List.getElem?_eq_getElem hm]
/-- what number tells. -/
def QNum (w : World) (q : Nat) (z : List Int) (at_ : Nat) (e : Ending) (w' : World) : Prop := match numP (z.drop at_) with
  | none => e = .returned (.tuple #[.int .u64 0, .bool false]) ∧ Below w.heap.size w w'
  | some (n, k) => e = .returned (.tuple #[.int .u64 (n : Int), .bool true]) ∧ ∃ w1, Below w.heap.size w w1 ∧ w' = w1.setCell ⟨q, 1, none⟩ (.int .i64 ((at_ + k : Nat) : Int))
theorem QNum.no {w w' : World} {q : Nat} {z : List Int} {at_ : Nat} (h : numP (z.drop at_) = none) (hb : Below w.heap.size w w') : QNum w q z at_ (.returned (.tuple #[.int .u64 0, .bool false])) w' := by
  unfold QNum; rw [h]; exact ⟨rfl, hb⟩
theorem QNum.yes {w w1 : World} {q : Nat} {z : List Int} {at_ n k : Nat} {t : Int} (h : numP (z.drop at_) = some (n, k)) (hb : Below w.heap.size w w1) (ht : t = ((at_ + k : Nat) : Int)) : QNum w q z at_ (.returned (.tuple #[.int .u64 (n : Int), .bool true])) (w1.setCell ⟨q, 1, none⟩ (.int .i64 t)) := by
  subst ht; unfold QNum; rw [h]; exact ⟨rfl, w1, hb, rfl⟩
set_option maxHeartbeats 4000000 in
theorem qnumber {q : Nat} {bs : Value} {z : List Int} {at_ : Nat} {fl : Bool} (w : World) (h : RefAt w q bs z at_ fl) :
    Calls Try.prog 40 #[ptr q] w fun e w' => QNum w q z at_ e w' := by
  obtain ⟨a, c, rfl⟩ := h.b.slice
  obtain ⟨-, hb1, hb2⟩ := h.b.bound
  have hle := h.le
  have hfew := h.few
  have hD : Byt (z.drop at_) := h.b.byt.drop _
  have hDl : (z.drop at_).length = z.length - at_ := by simp
  have hcells := hid (fun W (hb : Below w.heap.size w W) => (show W.cell? ⟨q, 0, none⟩ = some (.slice a z.length c) ∧ W.cell? ⟨q, 1, none⟩ = some (.int .i64 (at_ : Int)) ∧ W.frozen? ⟨q, 1, none⟩ = false from ⟨by rw [cell_of (h.below hb).cell]; rfl, by rw [cell_of (h.below hb).cell]; rfl, frozen_of (h.below hb).cell 1⟩))
  have hB := hid h.b
  replace hD := hid hD
  replace hDl := hid hDl
  clear h
  unfold ptr
  go_enter Try.func40, Try.ntmps40
  go_wp2
  go_loopw [4] (fun kv wr => ∃ k : Nat, 1 ≤ k ∧ k ≤ 11 ∧ kv = .int .i64 (k : Int) ∧ (∀ j, 1 ≤ j → j < k → j ≤ (z.drop at_).length → vi (val ((z.drop at_).take j) % 18446744073709551616) ≠ (z.drop at_).take j) ∧ Below w.heap.size w wr) (fun kv _ => 11 - (intOf kv).toNat)
  case atStart => exact ⟨1, by omega, by omega, rfl, (fun j h1 h2 => by omega), Below.refl _ _⟩
  case round =>
    obtain ⟨k, hk1, hk2, rfl, hno, hbr⟩ := hrel
    obtain ⟨g0, g1, -⟩ := hcells.out wr hbr
    replace hno := hid hno
    by_cases h10 : k ≤ 10
    · have h10' : (k : Int) ≤ 10 := by omega
      have d10 : decide ((k : Int) ≤ 10) = true := by simpa using h10'
      by_cases hlen : at_ + k ≤ z.length
      · have hl' : (at_ : Int) + (k : Int) ≤ (z.length : Int) := by omega
        have hwr : IntKind.i64.wrap ((at_ : Int) + (k : Int)) = (at_ : Int) + (k : Int) := by rw [IntKind.wrap_i64]; omega
        have dl : decide ((at_ : Int) + (k : Int) ≤ (z.length : Int)) = true := by simpa using hl'
        obtain ⟨bb, off, rfl, hcz⟩ := (hB.out.at).2.2.2 (by omega)
        replace hcz := hid hcz
        replace hbr := hid hbr
        go_wp2
        go_quiet (fail)
        have hb7 := hid (below_drewN (n := nq) hbr.out)
        clear hbr g0 g1
        generalize wr.drewN nq = w7 at *
        go_wp2
        go_loopw [5, 6] (fun vv iv wx => ∃ m u : Nat, m ≤ k ∧ iv = .int .i64 ((m : Int) - 1) ∧ vv = .int .u64 (u : Int) ∧ u = val (((z.drop at_).take k).drop m) % 18446744073709551616 ∧ Below w.heap.size w wx) (fun _ iv _ => (intOf iv + 1).toNat)
        case atStart => exact ⟨k, 0, Nat.le_refl _, rfl, rfl, by rw [List.drop_of_length_le (by simp; omega)]; rfl, hb7.out⟩
        case round =>
          clear hb7
          obtain ⟨m, u, hm, rfl, rfl, hu, hbx⟩ := hrel
          by_cases hm0 : m = 0
          · subst hm0
            rw [List.drop_zero] at hu
            have hult : u < 18446744073709551616 := by omega
            have h10u := vi_len10 hult
            obtain ⟨g0, g1, gf⟩ := hcells.out _ hbx
            have hsl := hid (fun (W : World) (hW : Below w.heap.size w W) => (show IsB W (.slice (some ⟨bb, off + at_, none⟩) k (c - at_)) ((z.drop at_).take k) from (hB.out.below hW).part at_ (at_ + k) (by omega) hlen k (c - at_) (by omega) (by omega) (by unfold maxLen; omega)))
            have w1 : IntKind.i64.wrap ((at_ : Int) + (k : Int)) = (at_ : Int) + (k : Int) := by rw [IntKind.wrap_i64]; omega
            have w2 : ((at_ : Int) + (k : Int)).toNat = at_ + k := by omega
            have w5 : at_ + k - at_ = k := by omega
            have hca : ¬ c = at_ := by omega
            have hkc : at_ + k ≤ c := by omega
            have hnum := hid (fun W => rnumber u W hult)
            have hfin := hid (fun (hq : vi u = (z.drop at_).take k) => num_try (D := z.drop at_) (by have := hDl.out; omega) hult hq)
            have hno' := hid (fun (hq : vi u ≠ (z.drop at_).take k) => (show ∀ j, 1 ≤ j → j < k + 1 → j ≤ (z.drop at_).length → vi (val ((z.drop at_).take j) % 18446744073709551616) ≠ (z.drop at_).take j from fun j h1 h2 h3 => by
              by_cases e : j = k
              · subst e; rw [← hu]; exact hq
              · exact hno.out j h1 (by omega) h3))
            have hbz := hid (fun W (hb : Below _ _ W) => low' hbx hb)
            replace hbx := hid hbx
            clear hult hu hlen
            have hkc' : (at_ : Int) + (k : Int) ≤ (c : Int) := by omega
            have hak : (at_ : Int) ≤ (at_ : Int) + (k : Int) := by omega
            by_cases hq : vi u = (z.drop at_).take k
            · have hqb : (vi u == (z.drop at_).take k) = true := by simpa using hq
              have hfn := hid (hfin.out hq)
              clear hq hfin hno'
              go_wp2
              go_region_held3 (fun w' => w'.cell? ⟨q, 0, none⟩ = some (.slice (some ⟨bb, off, none⟩) z.length c) ∧ w'.cell? ⟨q, 1, none⟩ = some (.int .i64 (at_ : Int))) (go_keep) (first | (go_at_call 31; refine (hnum.out _).mono ?_; rintro e w8 ⟨a8, c8, rfl, o8, b8⟩; have B8 := low' (below_drewN (n := 1) hbx.out) b8; obtain ⟨j0, j1, jf⟩ := hcells.out w8 B8; replace o8 := hid o8; replace B8 := hid B8; clear b8) | (go_at_call 13; refine (same_any _ _ (vi u) ((z.drop at_).take k) _ (by exact o8.out.isB.heap rfl) (by exact (hsl.out w8 B8.out).heap rfl)).mono ?_; rintro e w9 ⟨rfl, n9, rfl⟩))
              all_goals
                go_wp2
                go_ret2
                exact QNum.yes hfn.out (below_drewN B8.out) (by omega)
            · have hqb : (vi u == (z.drop at_).take k) = false := by simpa using hq
              have hnn := hid (hno'.out hq)
              clear hq hfin hno'
              go_wp2
              go_region_held3 (fun w' => w'.cell? ⟨q, 0, none⟩ = some (.slice (some ⟨bb, off, none⟩) z.length c) ∧ w'.cell? ⟨q, 1, none⟩ = some (.int .i64 (at_ : Int))) (go_keep) (first | (go_at_call 31; refine (hnum.out _).mono ?_; rintro e w8 ⟨a8, c8, rfl, o8, b8⟩; have B8 := low' (below_drewN (n := 1) hbx.out) b8; obtain ⟨j0, j1, jf⟩ := hcells.out w8 B8; replace o8 := hid o8; replace B8 := hid B8; clear b8) | (go_at_call 13; refine (same_any _ _ (vi u) ((z.drop at_).take k) _ (by exact o8.out.isB.heap rfl) (by exact (hsl.out w8 B8.out).heap rfl)).mono ?_; rintro e w9 ⟨rfl, n9, rfl⟩))
              all_goals
                go_wp2
                go_roundw
                case rel => exact ⟨k + 1, by omega, by omega, by go_num, hnn.out, below_drewN B8.out⟩
                case measure => simp [intOf]; omega
          · obtain ⟨m', rfl⟩ : ∃ m', m = m' + 1 := ⟨m - 1, by omega⟩
            rw [show ((m' + 1 : Nat) : Int) - 1 = (m' : Int) by omega]
            obtain ⟨g0, g1, -⟩ := hcells.out _ hbx
            have hmz : at_ + m' < z.length := by omega
            have c1 := (hbx.cell (p := ⟨bb, off + (at_ + m'), none⟩) (World.block_lt_of_cell? w _ (hcz.out _ hmz))).trans (hcz.out _ hmz)
            have hy := hB.out.byt.getD _ hmz
            have hvd : Hid (val (((z.drop at_).take k).drop m') = ((z.getD (at_ + m') 0) % 128).toNat + 128 * val (((z.drop at_).take k).drop (m' + 1))) := by
              have h1 := val_drop ((z.drop at_).take k) m' (by simp; omega)
              have h2 : ((z.drop at_).take k).getD m' 0 = z.getD (at_ + m') 0 := by simp [List.getD, List.getElem?_take_of_lt (show m' < k by omega)]
              rw [h2] at h1
              exact h1
            generalize z.getD (at_ + m') 0 = y at *
            obtain ⟨hy0, hy1⟩ := hy
            have hy1' : y ≤ 255 := by omega
            have hult : u ≤ 18446744073709551615 := by omega
            replace hu := hid hu
            have w1 : IntKind.i64.wrap ((at_ : Int) + (m' : Int)) = (at_ : Int) + (m' : Int) := by rw [IntKind.wrap_i64]; omega
            have w2 : ((at_ : Int) + (m' : Int)).toNat = at_ + m' := by omega
            have w3 : (at_ : Int) + (m' : Int) < (z.length : Int) := by omega
            have w4 : (0 : Int) ≤ (m' : Int) := by omega
            clear hy1 hlen
            replace hbx := hid hbx
            go_wp2
            go_quiet (fail)
            go_wp2
            refine ⟨⟨m', val (((z.drop at_).take k).drop m') % 18446744073709551616, by omega, rfl, congrArg (Value.int .u64) ?_, rfl, below_drewN hbx.out⟩, by simp [intOf]⟩
            have h1 := hu.out
            rw [IntKind.wrap_u64, IntKind.wrap_u64, hvd.out]
            generalize val (((z.drop at_).take k).drop (m' + 1)) = X at *
            omega
      · have hl' : ¬ (at_ : Int) + (k : Int) ≤ (z.length : Int) := by omega
        have hwr : IntKind.i64.wrap ((at_ : Int) + (k : Int)) = (at_ : Int) + (k : Int) := by rw [IntKind.wrap_i64]; omega
        have dl : decide ((at_ : Int) + (k : Int) ≤ (z.length : Int)) = false := by simpa using hl'
        have hn : Hid (numP (z.drop at_) = none) := num_none hD.out (fun j h1 h2 h3 => hno.out j h1 (by have := hDl.out; omega) h3)
        replace hbr := hid hbr
        go_wp2
        go_quiet (fail)
        go_wp2
        go_ret2
        exact QNum.no hn.out (below_drewN hbr.out)
    · have h10' : ¬ (k : Int) ≤ 10 := by omega
      have d10 : decide ((k : Int) ≤ 10) = false := by simpa using h10'
      have hn : Hid (numP (z.drop at_) = none) := num_none hD.out (fun j h1 h2 h3 => hno.out j h1 (by omega) h3)
      replace hbr := hid hbr
      go_wp2
      go_quiet (fail)
      go_wp2
      go_ret2
      exact QNum.no hn.out (below_drewN hbr.out)
end Go.Proofs.Ythhfahnlcoiblaa
