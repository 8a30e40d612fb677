import Derived.Test.YtjhodmpgggaknaaGreatDoorZHG
import Derived.Test.YtjhodmpgggaknaaGreatDoorZD5
import Derived.Test.YtjhodmpgggaknaaGreatDoorZF8
/- The document's allTokens. -/
namespace Go.Proofs.YtjhodmpgggaknaaGreatDoor
open Go.RowKit Go.Shelf Go.Maps

def ATPost (s : Tx) (w : World) (e : Ending) (w' : World) : Prop := Below w.heap.size w w' ∧ ((atF (s.length + 1) s = none ∧ ∃ k : Int, k ≠ 0 ∧ e = .returned (.tuple #[.slice none 0 0, .int .i64 0, .int .i64 k])) ∨ ∃ ts, atF (s.length + 1) s = some ts ∧ ts.length ≤ s.length + 1 ∧ ∃ a c, e = .returned (.tuple #[.slice a ts.length c, .int .i64 0, .int .i64 0]) ∧ OwnD w.heap.size w' (.slice a ts.length c) ts)
theorem drop_getD {s : Tx} {j : Nat} (h : j < s.length) : s.drop j = s.getD j 0 :: s.drop (j + 1) := drop_at h
/-- what is left of a part's end. -/
def EndI (s : Tx) (i j : Nat) (q : Bool) : Prop := endW false (s.drop i) = if j ≤ s.length then (endW q (s.drop j)).map (· + (j - i)) else none
theorem endI_start (s : Tx) (i : Nat) (hi : i ≤ s.length) : EndI s i i false := by
  unfold EndI
  rw [if_pos hi, Nat.sub_self]
  cases endW false (s.drop i) <;> rfl
theorem endI_done {s : Tx} {i : Nat} {q : Bool} (h : EndI s i s.length q) : endW false (s.drop i) = some (s.length - i) := by
  unfold EndI at h
  rw [if_pos (Nat.le_refl _), List.drop_length] at h
  rw [h]
  cases q <;> simp [endW]
theorem endI_none {s : Tx} {i j : Nat} {q : Bool} (h : EndI s i j q) (hj : s.length < j) : endW false (s.drop i) = none := by
  unfold EndI at h
  rwa [if_neg (by omega)] at h
theorem endI_blank {s : Tx} {i j : Nat} (h : EndI s i j false) (hj : j < s.length) (hc : s.getD j 0 = 32) : endW false (s.drop i) = some (j - i) := by
  unfold EndI at h
  rw [if_pos (by omega), drop_getD hj, hc, endW_blank] at h
  rw [h]
  simp
theorem endI_esc {s : Tx} {i j : Nat} {q : Bool} (h : EndI s i j q) (hij : i ≤ j) (hj : j < s.length) (hc : s.getD j 0 = 92) : EndI s i (j + 2) q := by
  unfold EndI at h ⊢
  rw [if_pos (by omega), drop_getD hj, hc] at h
  by_cases h2 : j + 2 ≤ s.length
  · rw [if_pos h2]
    rw [drop_getD (show j + 1 < s.length by omega), endW_esc] at h
    rw [h, show j + 1 + 1 = j + 2 from rfl]
    cases endW q (s.drop (j + 2)) with
    | none => rfl
    | some n => simp; omega
  · rw [if_neg h2]
    rw [List.drop_eq_nil_of_le (show s.length ≤ j + 1 by omega), endW_esc0] at h
    exact h
theorem endI_quote {s : Tx} {i j : Nat} {q : Bool} (h : EndI s i j q) (hij : i ≤ j) (hj : j < s.length) (hc : s.getD j 0 = 34) : EndI s i (j + 1) (!q) := by
  unfold EndI at h ⊢
  rw [if_pos (by omega), drop_getD hj, hc, endW_quote] at h
  rw [if_pos (by omega), h]
  cases endW (!q) (s.drop (j + 1)) with
  | none => rfl
  | some n => simp; omega
theorem endI_else {s : Tx} {i j : Nat} {q : Bool} (h : EndI s i j q) (hij : i ≤ j) (hj : j < s.length) (h1 : ¬ (q = false ∧ s.getD j 0 = 32)) (h2 : s.getD j 0 ≠ 92) (h3 : s.getD j 0 ≠ 34) : EndI s i (j + 1) q := by
  unfold EndI at h ⊢
  rw [if_pos (by omega), drop_getD hj, endW_else _ h1 h2 h3] at h
  rw [if_pos (by omega), h]
  cases endW q (s.drop (j + 1)) with
  | none => rfl
  | some n => simp; omega
/-- the parts ahead are done. -/
def AtI (s : Tx) (i : Nat) (acc : List Tk) : Prop := ∃ f, atF (s.length + 1) s = (atF f (s.drop i)).map (acc ++ ·) ∧ (s.drop i).length < f
theorem atI_start (s : Tx) : AtI s 0 [] := ⟨s.length + 1, by rw [List.drop_zero]; cases atF (s.length + 1) s <;> rfl, by simp⟩
theorem atI_done {s : Tx} {i : Nat} {acc : List Tk} (h : AtI s i acc) (hi : s.length ≤ i) : atF (s.length + 1) s = some acc := by
  obtain ⟨f, h1, h2⟩ := h
  rw [List.drop_eq_nil_of_le hi] at h1 h2
  cases f with
  | zero => exact absurd h2 (Nat.not_lt_zero _)
  | succ f =>
    rw [h1, atF, if_pos rfl]
    simp
theorem atI_step {s : Tx} {i : Nat} {acc : List Tk} (h : AtI s i acc) (hi : i < s.length) : ∃ f, atF (s.length + 1) s = (match endW false (s.drop i) with
    | none => none
    | some n => if n ≤ 4096 ∧ badOf ((s.drop i).take n) = none then (atF f ((s.drop i).drop (n + 1))).map (tksOf ((s.drop i).take n) ++ ·) else none).map (acc ++ ·) ∧ s.length - i ≤ f := by
  obtain ⟨f, h1, h2⟩ := h
  cases f with
  | zero => exact absurd h2 (Nat.not_lt_zero _)
  | succ f =>
    refine ⟨f, ?_, by rw [List.length_drop] at h2; omega⟩
    rw [h1, atF, if_neg (by rw [drop_getD hi]; simp)]
    cases endW false (s.drop i) with
    | none => rfl
    | some n => rfl
theorem atI_none {s : Tx} {i : Nat} {acc : List Tk} (h : AtI s i acc) (hi : i < s.length) (he : endW false (s.drop i) = none) : atF (s.length + 1) s = none := by
  obtain ⟨f, h1, _⟩ := atI_step h hi
  rw [h1, he]
  rfl
theorem atI_bad {s : Tx} {i j : Nat} {acc : List Tk} (h : AtI s i acc) (hi : i < s.length) (he : endW false (s.drop i) = some (j - i)) (hb : ¬ (j - i ≤ 4096 ∧ badOf ((s.drop i).take (j - i)) = none)) : atF (s.length + 1) s = none := by
  obtain ⟨f, h1, _⟩ := atI_step h hi
  rw [h1, he]
  simp only
  rw [if_neg hb]
  rfl
theorem atI_next {s : Tx} {i j : Nat} {acc : List Tk} (h : AtI s i acc) (hi : i < s.length) (hij : i ≤ j) (he : endW false (s.drop i) = some (j - i)) (hb : j - i ≤ 4096 ∧ badOf ((s.drop i).take (j - i)) = none) : AtI s (j + 1) (acc ++ tksOf ((s.drop i).take (j - i))) := by
  obtain ⟨f, h1, h2⟩ := atI_step h hi
  rw [he] at h1
  simp only at h1
  rw [if_pos hb, List.drop_drop, show i + (j - i + 1) = j + 1 by omega] at h1
  refine ⟨f, ?_, by rw [List.length_drop]; omega⟩
  rw [h1]
  cases atF f (s.drop (j + 1)) with
  | none => rfl
  | some ts => simp
set_option maxRecDepth 100000 in
set_option maxHeartbeats 4000000 in
theorem allTok_any (s : Tx) (hs : s.length ≤ 1000000) (w : World) : Calls Tryz.prog 33 #[str s] w (ATPost s w) := by
  have refLong := hid (fun (p : Tx) (h : 4096 < p.length) W => refAll_long p h W)
  have refAll := hid (fun (p : Tx) (h : p.length ≤ 4096) W => refAll_any p (tksOf p) (badOf p) (tks_scan p) h W)
  have hst := hid (atI_start s)
  unfold str
  go_enter Tryz.func33, Tryz.ntmps33
  go_wp2_with fail
  go_loopw [5, 6] (fun ov av wr => ∃ (i : Nat) (acc : List Tk) (a : Option Addr) (c : Nat), i ≤ s.length + 1 ∧ ov = .slice a acc.length c ∧ av = .int .i64 (i : Int) ∧ Hid (OwnD w.heap.size wr (.slice a acc.length c) acc) ∧ Hid (Below w.heap.size w wr) ∧ Hid (AtI s i acc) ∧ acc.length ≤ i) (fun _ av _ => s.length + 2 - (intOf av).toNat)
  case atStart => exact ⟨0, [], none, 0, by omega, rfl, rfl, ownD_nil _ _, Below.refl _ _, hst, by simp⟩
  case round =>
    clear hst
    obtain ⟨i, acc, a, c, hi1, rfl, rfl, hO, hB, hA, hal⟩ := hrel
    obtain ⟨V, rfl⟩ : ∃ V : World, V = wr := ⟨_, rfl⟩
    by_cases hi' : (i : Int) < (s.length : Int)
    · have hi : i < s.length := by omega
      have hI0 := hid (endI_start s i (by omega))
      go_wp2_with fail
      go_loopw [7, 8] (fun ev qv wq => ∃ (j : Nat) (q : Bool), ev = .int .i64 (j : Int) ∧ qv = .bool q ∧ i ≤ j ∧ j ≤ s.length + 1 ∧ Hid (EndI s i j q) ∧ wq = V) (fun ev _ _ => s.length + 2 - (intOf ev).toNat)
      case atStart => exact ⟨i, false, rfl, rfl, by omega, by omega, hI0, rfl⟩
      case round =>
        clear hI0
        obtain ⟨j, q, rfl, rfl, hij, hj1, hI, rfl⟩ := hrel
        by_cases hj' : (j : Int) < (s.length : Int)
        · have hj : j < s.length := by omega
          have j00 : (0 : Int) ≤ (j : Int) := by omega
          have hget := get_at hj
          have e1 := hid (endI_blank (s := s) (i := i) (j := j))
          have e2 := hid (fun hc => endI_esc hI.out hij hj hc)
          have e3 := hid (fun hc => endI_quote hI.out hij hj hc)
          have e4 := hid (fun h1 h2 h3 => endI_else hI.out hij hj h1 h2 h3)
          have e5 := hid (fun (hq : q = false) hc => endI_blank (hq ▸ hI.out) hj hc)
          clear e1
          generalize s.getD j 0 = z at *
          have w1 : IntKind.i64.wrap ((j : Int) + 1) = ((j + 1 : Nat) : Int) := by rw [IntKind.wrap_i64]; omega
          have w2 : IntKind.i64.wrap (((j + 1 : Nat) : Int) + 1) = ((j + 2 : Nat) : Int) := by rw [IntKind.wrap_i64]; omega
          have w3 : IntKind.i64.wrap ((j : Int) + 1 + 1) = ((j + 2 : Nat) : Int) := by rw [IntKind.wrap_i64]; omega
          by_cases hex : q = false ∧ z = 32
          · obtain ⟨rfl, rfl⟩ := hex
            have hEnd := hid (e5.out rfl rfl)
            clear e2 e3 e4 e5 w1 w2 w3
            have j0 : (0 : Int) ≤ (i : Int) := by omega
            have j1 : (i : Int) ≤ (j : Int) := by omega
            have j2 : (j : Int) ≤ (s.length : Int) := by omega
            have j3 : decide ((s.length : Int) < (j : Int)) = false := decide_eq_false (by omega)
            have hex : (⟨s.toArray⟩ : ByteArray).extract i j = ⟨((s.drop i).take (j - i)).toArray⟩ := by rw [ext_str, List.drop_take]
            have hpl : ((s.drop i).take (j - i)).length = j - i := by simp; omega
            obtain ⟨pt, hpt⟩ : ∃ pt, pt = (s.drop i).take (j - i) := ⟨_, rfl⟩
            rw [← hpt] at hex hpl
            have hnx := hid (fun hb => atI_next hA.out hi hij hEnd.out hb)
            have hbd := hid (fun hb => atI_bad hA.out hi hEnd.out hb)
            rw [← hpt] at hnx hbd
            have wj : IntKind.i64.wrap ((j : Int) + 1) = ((j + 1 : Nat) : Int) := by rw [IntKind.wrap_i64]; omega
            clear hpt hEnd hI
            by_cases hlong : 4096 < pt.length
            · have hal := hid (refLong.out pt hlong)
              have hfin := hid (hbd.out (fun h => by omega))
              clear hnx hbd hA hlong
              go_wp2_with fail
              try rw [hex]
              refine (hal.out _).mono ?_
              rintro e V2 ⟨rfl, hV2⟩
              obtain rfl := hV2.symm
              clear hal hex
              go_wp2
              go_ret3
              exact ⟨hB.out, .inl ⟨hfin.out, 3, by decide, rfl⟩⟩
            · have hal := hid (refAll.out pt (by omega))
              cases hbo : badOf pt with
              | some p =>
                rw [hbo] at hal
                have hfin := hid (hbd.out (fun h => by rw [hbo] at h; cases h.2))
                clear hnx hbd hA hlong hbo
                go_wp2_with fail
                try rw [hex]
                refine (hal.out _).mono ?_
                rintro e V2 ⟨vb, ⟨r, hr, rfl⟩ | ⟨hr, -⟩⟩
                case inr => cases hr
                have hBV := hid (low' hB.out vb)
                clear hal hex vb hr
                go_wp2
                go_ret3
                exact ⟨hBV.out, .inl ⟨hfin.out, 90, by decide, rfl⟩⟩
              | none =>
                rw [hbo] at hal
                have hN := hid (hnx.out ⟨by omega, hbo⟩)
                have htl : (tksOf pt).length ≤ j - i := by
                  have hsc := tks_scan pt
                  have := (scan_mem hsc).1
                  omega
                clear hnx hbd hA hlong hbo
                generalize tksOf pt = tl at *
                go_wp2_with fail
                try rw [hex]
                refine (hal.out _).mono ?_
                rintro e V2 ⟨vb, ⟨r, hr, -⟩ | ⟨-, ta, tc, rfl, ho⟩⟩
                case inl => cases hr
                have hBV := hB.out
                obtain ⟨pa, pc, P3, RUN, hO3, hG3, -⟩ := appD_run (hO.out.below vb) ho.isD (by omega) (by have := hBV.size; have := vb.size; omega)
                have hB3 := hid ((low' hBV vb).trans (appD_low (hO.out.below vb) (by have := hBV.size; have := vb.size; omega) hG3))
                have hlen : (acc ++ tl).length = acc.length + tl.length := by simp
                rw [← hlen] at RUN hO3
                replace RUN := hid RUN
                replace hO3 := hid hO3
                have hac : (acc ++ tl).length ≤ j + 1 := by rw [hlen]; omega
                clear hal hex vb ho hG3 hBV hO hB hlen htl
                generalize acc ++ tl = acc2 at *
                go_wp2_with (at_builtin; refine wpList_append_run _ rfl _ _ 41 rfl _ _ _ _ rfl rfl RUN.out ?_)
                exact ⟨⟨j + 1, acc2, pa, pc, by omega, rfl, by simp, hO3, hB3, hN, hac⟩, by simp [intOf]; omega⟩
          · by_cases h92 : z = 92
            · subst h92
              have hI2 := hid (e2.out rfl)
              clear e2 e3 e4 e5 hex hI
              cases q
              all_goals
                go_wp2
                exact ⟨⟨j + 2, _, by first | rfl | simp, rfl, by omega, by omega, hI2, by first | rfl | trivial⟩, by simp [intOf]; omega⟩
            · have t92 : ((z.toNat : Int) == 92) = false := by
                rw [beq_eq_false_iff_ne]
                exact fun e => h92 (UInt8.toNat_inj.1 (show z.toNat = 92 by omega))
              by_cases h34 : z = 34
              · subst h34
                have hI2 := hid (e3.out rfl)
                clear e2 e3 e4 e5 hex hI
                cases q
                all_goals
                  go_wp2
                  exact ⟨⟨j + 1, _, by first | rfl | simp, rfl, by omega, by omega, hI2, by first | rfl | trivial⟩, by simp [intOf]; omega⟩
              · have t34 : ((z.toNat : Int) == 34) = false := by
                  rw [beq_eq_false_iff_ne]
                  exact fun e => h34 (UInt8.toNat_inj.1 (show z.toNat = 34 by omega))
                have hI2 := hid (e4.out hex h92 h34)
                clear e2 e3 e4 e5 hI h92 h34
                cases q
                · have t32 : ((z.toNat : Int) != 32) = true := by
                    rw [bne_iff_ne]
                    exact fun e => hex ⟨rfl, UInt8.toNat_inj.1 (show z.toNat = 32 by omega)⟩
                  clear hex
                  go_wp2
                  exact ⟨⟨j + 1, _, by first | rfl | simp, rfl, by omega, by omega, hI2, by first | rfl | trivial⟩, by simp [intOf]; omega⟩
                · clear hex
                  go_wp2
                  exact ⟨⟨j + 1, _, by first | rfl | simp, rfl, by omega, by omega, hI2, by first | rfl | trivial⟩, by simp [intOf]; omega⟩
        · by_cases hjl : j = s.length
          · have hEnd : Hid (endW false (s.drop i) = some (j - i)) := by
              have h0 := hI.out
              rw [hjl] at h0 ⊢
              exact endI_done h0
            have jx : decide ((j : Int) < (s.length : Int)) = false := decide_eq_false hj'
            have hjle : j ≤ s.length := by omega
            replace hjl := hid hjl
            have j0 : (0 : Int) ≤ (i : Int) := by omega
            have j1 : (i : Int) ≤ (j : Int) := by omega
            have j2 : (j : Int) ≤ (s.length : Int) := by omega
            have j3 : decide ((s.length : Int) < (j : Int)) = false := decide_eq_false (by omega)
            have hex : (⟨s.toArray⟩ : ByteArray).extract i j = ⟨((s.drop i).take (j - i)).toArray⟩ := by rw [ext_str, List.drop_take]
            have hpl : ((s.drop i).take (j - i)).length = j - i := by simp; omega
            obtain ⟨pt, hpt⟩ : ∃ pt, pt = (s.drop i).take (j - i) := ⟨_, rfl⟩
            rw [← hpt] at hex hpl
            have hnx := hid (fun hb => atI_next hA.out hi hij hEnd.out hb)
            have hbd := hid (fun hb => atI_bad hA.out hi hEnd.out hb)
            rw [← hpt] at hnx hbd
            have wj : IntKind.i64.wrap ((j : Int) + 1) = ((j + 1 : Nat) : Int) := by rw [IntKind.wrap_i64]; omega
            clear hpt hEnd hI
            by_cases hlong : 4096 < pt.length
            · have hal := hid (refLong.out pt hlong)
              have hfin := hid (hbd.out (fun h => by omega))
              clear hnx hbd hA hlong
              go_wp2_with fail
              try rw [hex]
              refine (hal.out _).mono ?_
              rintro e V2 ⟨rfl, hV2⟩
              obtain rfl := hV2.symm
              clear hal hex
              go_wp2
              go_ret3
              exact ⟨hB.out, .inl ⟨hfin.out, 3, by decide, rfl⟩⟩
            · have hal := hid (refAll.out pt (by omega))
              cases hbo : badOf pt with
              | some p =>
                rw [hbo] at hal
                have hfin := hid (hbd.out (fun h => by rw [hbo] at h; cases h.2))
                clear hnx hbd hA hlong hbo
                go_wp2_with fail
                try rw [hex]
                refine (hal.out _).mono ?_
                rintro e V2 ⟨vb, ⟨r, hr, rfl⟩ | ⟨hr, -⟩⟩
                case inr => cases hr
                have hBV := hid (low' hB.out vb)
                clear hal hex vb hr
                go_wp2
                go_ret3
                exact ⟨hBV.out, .inl ⟨hfin.out, 90, by decide, rfl⟩⟩
              | none =>
                rw [hbo] at hal
                have hN := hid (hnx.out ⟨by omega, hbo⟩)
                have htl : (tksOf pt).length ≤ j - i := by
                  have hsc := tks_scan pt
                  have := (scan_mem hsc).1
                  omega
                clear hnx hbd hA hlong hbo
                generalize tksOf pt = tl at *
                go_wp2_with fail
                try rw [hex]
                refine (hal.out _).mono ?_
                rintro e V2 ⟨vb, ⟨r, hr, -⟩ | ⟨-, ta, tc, rfl, ho⟩⟩
                case inl => cases hr
                have hBV := hB.out
                obtain ⟨pa, pc, P3, RUN, hO3, hG3, -⟩ := appD_run (hO.out.below vb) ho.isD (by omega) (by have := hBV.size; have := vb.size; omega)
                have hB3 := hid ((low' hBV vb).trans (appD_low (hO.out.below vb) (by have := hBV.size; have := vb.size; omega) hG3))
                have hlen : (acc ++ tl).length = acc.length + tl.length := by simp
                rw [← hlen] at RUN hO3
                replace RUN := hid RUN
                replace hO3 := hid hO3
                have hac : (acc ++ tl).length ≤ j + 1 := by rw [hlen]; omega
                clear hal hex vb ho hG3 hBV hO hB hlen htl
                generalize acc ++ tl = acc2 at *
                go_wp2_with (at_builtin; refine wpList_append_run _ rfl _ _ 41 rfl _ _ _ _ rfl rfl RUN.out ?_)
                exact ⟨⟨j + 1, acc2, pa, pc, by omega, rfl, by simp, hO3, hB3, hN, hac⟩, by simp [intOf]; omega⟩
          · have hE0 := hid (endI_none hI.out (by omega))
            have hfin := hid (atI_none hA.out hi hE0.out)
            have j3 : decide ((s.length : Int) < (j : Int)) = true := decide_eq_true (by omega)
            clear hI hE0 hA hO
            go_wp2
            go_ret3
            exact ⟨hB.out, .inl ⟨hfin.out, 1, by decide, rfl⟩⟩
    · have hfin := hid (atI_done hA.out (by omega))
      clear hA
      go_wp2
      go_ret3
      exact ⟨hB.out, .inr ⟨acc, hfin.out, by omega, a, c, rfl, hO.out⟩⟩
end Go.Proofs.YtjhodmpgggaknaaGreatDoor
