/- The law's awake: the chapter's rows. -/
import Derived.Test.YtihgikekkgoddaaGreatDoorZLY
namespace Go.Proofs.YtihgikekkgoddaaGreatDoor
open Go.RowKit Go.Shelf Sto

theorem rs_empty {p : List UInt8} (hp : p.length ≤ 16) : RS p ⟨[], 0, -1⟩ 0 [] [] 0 0 :=
  ⟨hp, fun n hn => by simp [namesOf] at hn, fun q _ hm => by simp [namesOf] at hm, by omega, .inl ⟨rfl, rfl⟩, .inl ⟨rfl, rfl, rfl⟩, by simp⟩
theorem read8_nil {recs : List (List UInt8)} (h : Read8 [] recs) : recs = [] := read8_one h (read8_all (l := []) (by simp))
theorem isB_one (w : World) (n : UInt8) : Frm.IsB (w.alloc (.cells #[.int .u8 (n.toNat : Int)] 5)) (.slice (some ⟨w.heap.size, 0, none⟩) 1 1) (ints [n]) := by
  have e : (w.alloc (.cells #[.int .u8 (n.toNat : Int)] 5)).heap[w.heap.size]? = some (.cells #[.int .u8 (n.toNat : Int)] 5) := (MapKept.heap_alloc w _).1
  refine ⟨by simp [ints, maxLen], ints_byt _, some ⟨w.heap.size, 0, none⟩, 1, rfl, by simp [ints], by unfold maxLen; omega, .inr ⟨w.heap.size, 0, rfl, fun i hi => ?_⟩⟩
  have : i = 0 := by simp [ints] at hi; omega
  subst this
  rw [cell_of e]; rfl
theorem isB_two (w : World) (n m : UInt8) : Frm.IsB (w.alloc (.cells #[.int .u8 (n.toNat : Int), .int .u8 (m.toNat : Int)] 5)) (.slice (some ⟨w.heap.size, 0, none⟩) 2 2) (ints [n, m]) := by
  have e : (w.alloc (.cells #[.int .u8 (n.toNat : Int), .int .u8 (m.toNat : Int)] 5)).heap[w.heap.size]? = some (.cells #[.int .u8 (n.toNat : Int), .int .u8 (m.toNat : Int)] 5) := (MapKept.heap_alloc w _).1
  refine ⟨by simp [ints, maxLen], ints_byt _, some ⟨w.heap.size, 0, none⟩, 2, rfl, by simp [ints], by unfold maxLen; omega, .inr ⟨w.heap.size, 0, rfl, fun i hi => ?_⟩⟩
  have hh : i = 0 ∨ i = 1 := by simp [ints] at hi; omega
  rcases hh with rfl | rfl <;> (rw [cell_of e]; rfl)
/-- the law's Append of one byte. -/
theorem app1 (W : World) {B lb sb c : Nat} {g : Gs} {t : St} {p : List UInt8} {N : Nat} {S X : List UInt8} {s K : Nat} (n : UInt8) (h : Bo B W lb g t ⟨sb, p, N, c, false⟩) (hr : RS p t N S X s K) (hlv : LV t) {f : Ent} (hf : lookE (nameOf p (pLog N)) t.l = some f) (hX : X.length ≤ 300000) (hc : c ≤ 1000) (ha : t.acts ≤ 10000) :
    Calls Tryz.prog 8 #[ptr lb, .slice (some ⟨W.heap.size, 0, none⟩) 1 1] (W.alloc (.cells #[.int .u8 (n.toNat : Int)] 5)) fun e w' => e = .returned (.int .i64 0) ∧ ∃ g' t' f', Bo B w' lb g' t' ⟨sb, p, N, c + 1, false⟩ ∧ RS p t' N S (X ++ enc [n]) s K ∧ LV t' ∧ lookE (nameOf p (pLog N)) t'.l = some f' ∧ t'.acts ≤ t.acts + 1 ∧ Below B W w' := by
  have hb := alloc_low W (.cells #[.int .u8 (n.toNat : Int)] 5)
  have h2 := h.below hb
  have := enc_short (bs := [n]) (by simp)
  refine (append_live _ h2 hr hlv hf _ [n] (isB_one W n) (by simp) (by omega) (by omega) (by omega)).mono ?_
  rintro e w' ⟨rfl, g', t', f', hs, h3, h4, h5, h6⟩
  exact ⟨rfl, g', t', f', hs.bo, h3, h4, h5, h6, ((hb.mono h.is.2.2).trans (BStep.low h2 hs))⟩
theorem enc_ge5 (r : List UInt8) : 5 ≤ (enc r).length := by rw [enc_len]; exact Frm.fr_pos _
/-- what is read of three records of which the third is torn. -/
theorem torn3 {recs : List (List UInt8)} (h : Read8 ((encs [[1], [2], [3]]).take ((encs [[1], [2]]).length + 2)) recs) : recs = [[1], [2]] := by
  have e3 : (encs [[1], [2], [3]]).length = (encs [[1], [2]]).length + (enc [3]).length := by
    rw [show ([[1], [2], [3]] : List (List UInt8)) = [[1], [2]] ++ [[3]] from rfl, encs_app, List.length_append, encs_one]
  have g3 := enc_ge5 [3]
  obtain ⟨k, h1, h2, h3, h4⟩ := read8_take (l := [[1], [2], [3]]) (by simp) ((encs [[1], [2]]).length + 2) (by omega)
  have k2 : 2 ≤ k := h4 2 (by simp) (by simp)
  have k3 : k ≤ 2 := by
    have : k ≤ 3 := by simpa using h1
    rcases Nat.lt_or_ge k 3 with h | h
    · omega
    · obtain rfl : k = 3 := by omega
      have h3' : (encs [[1], [2], [3]]).length ≤ (encs [[1], [2]]).length + 2 := h3
      omega
  obtain rfl : k = 2 := by omega
  exact read8_one h h2
theorem isR_lit (w : World) : IsR (((w.alloc (.cells #[.int .u8 1] 5)).alloc (.cells #[.int .u8 2] 5)).alloc (.cells #[.slice (some ⟨w.heap.size, 0, none⟩) 1 1, .slice (some ⟨w.heap.size + 1, 0, none⟩) 1 1] 22)) (.slice (some ⟨w.heap.size + 1 + 1, 0, none⟩) 2 2) [[1], [2]] := by
  have b1 := isB_one w 1
  have b2 := isB_one (w.alloc (.cells #[.int .u8 1] 5)) 2
  rw [World.size_alloc] at b2
  have a1 := alloc_low (w.alloc (.cells #[.int .u8 1] 5)) (.cells #[.int .u8 2] 5)
  have a2 := alloc_low ((w.alloc (.cells #[.int .u8 1] 5)).alloc (.cells #[.int .u8 2] 5)) (.cells #[.slice (some ⟨w.heap.size, 0, none⟩) 1 1, .slice (some ⟨w.heap.size + 1, 0, none⟩) 1 1] 22)
  have e := (MapKept.heap_alloc ((w.alloc (.cells #[.int .u8 1] 5)).alloc (.cells #[.int .u8 2] 5)) (.cells #[.slice (some ⟨w.heap.size, 0, none⟩) 1 1, .slice (some ⟨w.heap.size + 1, 0, none⟩) 1 1] 22)).1
  rw [World.size_alloc, World.size_alloc] at e
  refine ⟨_, 2, rfl, by simp, by unfold maxLen; omega, .inr ⟨w.heap.size + 1 + 1, 0, rfl, fun i hi => ?_⟩⟩
  have hh : i = 0 ∨ i = 1 := by simp at hi; omega
  rcases hh with rfl | rfl
  · exact ⟨.slice (some ⟨w.heap.size, 0, none⟩) 1 1, by rw [cell_of e]; rfl, (b1.below a1).below a2⟩
  · exact ⟨.slice (some ⟨w.heap.size + 1, 0, none⟩) 1 1, by rw [cell_of e]; rfl, b2.below a2⟩
theorem low3 (w : World) (o1 o2 o3 : Obj) : Below w.heap.size w (((w.alloc o1).alloc o2).alloc o3) := (((Below.refl _ w).alloc (Nat.le_refl _) _).alloc (by simp) _).alloc (by simp; omega) _
theorem low_drewN {B : Nat} {w : World} (n : Nat) (W : World) (h : Below B w W) : Below B w (W.drewN n) := ⟨h.os, h.tape, h.output, h.size, h.block⟩
set_option maxRecDepth 100000 in
set_option maxHeartbeats 8000000 in
theorem awake_any (w : World) : Calls Tryz.prog 13 #[] w fun e w' => e = .returned (.bool true) ∧ Below w.heap.size w w' := by
  go_enter Tryz.func13, Tryz.ntmps13
  go_wp2_with fail
  refine (new_t w).mono ?_
  rintro e w1 ⟨rfl, hI1, hb1, hs1⟩
  have ho1 := hid (open_live w1 hI1 (rs_empty (p := [116]) (by simp)) rfl (by omega) (by simp))
  have hI1' := hid hI1
  have B1 := hid hb1
  clear hb1 hs1 hI1
  unfold ptr str at ho1
  unfold ptr
  generalize w.heap.size + 1 = sb at *
  go_wp2_with fail
  refine ho1.out.mono ?_
  rintro e w2 ⟨lb, sv, rv, t2, g2, recs2, rfl, h2⟩
  obtain rfl := read8_nil h2.reads
  obtain ⟨sa, sc, rfl⟩ := h2.snap.own.slice
  obtain ⟨ra, rc, rfl⟩ := h2.recs.recs.slice
  obtain ⟨f2, hf2⟩ := h2.has
  have acts2 := h2.acts
  simp only [Nat.zero_add] at acts2
  have B2 : Hid (Below w.heap.size w w2) := B1.out.trans (h2.kept.below hI1'.out.2.2 (fun k hk => hI1'.out.1.base k hk))
  have bo2 := hid h2.bo
  have rs2 := hid h2.rs
  have a1 := hid (app1 w2 1 h2.bo h2.rs h2.lv hf2 (by simp [encs]) (by simp) (by omega))
  clear ho1 B1 h2 hI1'
  unfold ptr at a1
  go_wp2_with fail
  refine a1.out.mono ?_
  rintro e w3 ⟨rfl, g3, t3, f3, bo3, rs3, lv3, hf3, ac3, L3⟩
  have B3 : Hid (Below w.heap.size w w3) := B2.out.trans L3
  have a2 := hid (app1 w3 2 bo3 rs3 lv3 hf3 (by have h1 := enc_short (bs := [1]) (by simp); simp only [encs_nil, List.nil_append]; omega) (by simp) (by omega))
  clear a1 B2 L3 bo2 rs2
  unfold ptr at a2
  go_wp2_with fail
  refine a2.out.mono ?_
  rintro e w4 ⟨rfl, g4, t4, f4, bo4, rs4, lv4, hf4, ac4, L4⟩
  have B4 : Hid (Below w.heap.size w w4) := B3.out.trans L4
  have a3 := hid (sync_live w4 bo4 rs4 lv4 hf4 (by omega))
  have bo4' := hid bo4
  clear a2 B3 L4 bo3 rs3
  unfold ptr at a3
  go_wp2_with fail
  refine a3.out.mono ?_
  rintro e w5 ⟨rfl, g5, t5, f5, st5, rs5, lv5, hf5, ac5⟩
  have B5 : Hid (Below w.heap.size w w5) := B4.out.trans (BStep.low bo4'.out st5)
  have a4 := hid (app1 w5 3 st5.bo rs5 lv5 hf5 (by have h1 := enc_short (bs := [1]) (by simp); have h2 := enc_short (bs := [2]) (by simp); simp only [encs_nil, List.nil_append, List.length_append]; omega) (by simp) (by omega))
  clear a3 B4 bo4 rs4 st5 bo4'
  unfold ptr at a4
  go_wp2_with fail
  refine a4.out.mono ?_
  rintro e w6 ⟨rfl, g6, t6, f6, bo6, rs6, lv6, hf6, ac6, L6⟩
  have B6 : Hid (Below w.heap.size w w6) := B5.out.trans L6
  have a5 := hid (lcount w6 bo6.log)
  clear a4 B5 L6 rs5
  unfold ptr at a5
  go_wp2_with fail
  refine a5.out.mono ?_
  rintro e w7 ⟨rfl, hw7⟩
  subst hw7
  have X6 : encs [] ++ enc [1] ++ enc [2] ++ enc [3] = encs [[1], [2], [3]] := by simp [encs]
  have s6 : (encs [] ++ enc [1] ++ enc [2]).length = (encs [[1], [2]]).length := by simp [encs]
  have e36 : (encs [[1], [2], [3]]).length = (encs [[1], [2]]).length + (enc [3]).length := by
    rw [show ([[1], [2], [3]] : List (List UInt8)) = [[1], [2]] ++ [[3]] from rfl, encs_app, List.length_append, encs_one]
  have g3 := enc_ge5 [3]
  rw [X6, s6] at rs6
  obtain ⟨f8, hf8, rs8⟩ := rs6.crash1 hf6 rfl [2] (by omega)
  have hkp : keptOf [2] ((encs [[1], [2], [3]]).length - (encs [[1], [2]]).length) = 2 := by unfold keptOf; simp; omega
  rw [hkp] at rs8
  have hbA := alloc_low w7 (.cells #[.int .i64 2] 3)
  have a6 := hid (crash_t _ (bo6.is.below hbA) (.slice (some ⟨w7.heap.size, 0, none⟩) 1 1) [2] (isI_lit w7 [2] 1 (by simp) (by unfold maxLen; omega) (by simp)) (fun _ b hb hf => by
    have : b = w7.heap.size := by simpa [Value.ownBlock] using hb.symm
    have := bo6.is.1.lt hf
    omega))
  have bo6' := hid bo6
  clear a5 rs6 X6 s6 e36 g3 hkp hbA
  unfold ptr at a6
  simp only at a6
  go_wp2_with fail
  refine a6.out.mono ?_
  rintro e w8 ⟨rfl, g8, st8, is8⟩
  have B8 : Hid (Below w.heap.size w w8) := B6.out.trans (((alloc_low w7 (.cells #[.int .i64 2] 3)).mono bo6'.out.is.2.2).trans (Step.low (bo6'.out.is.below (alloc_low w7 _)) st8))
  have ac8 : (t6.crash [2]).acts = t6.acts := rfl
  have a7 := hid (open_live w8 is8 rs8 rfl (by omega) (by omega))
  have is8' := hid is8
  clear a6 st8 is8 bo6' bo6 hf8 B6
  unfold ptr str at a7
  go_wp2_with fail
  refine a7.out.mono ?_
  rintro e w9 ⟨lb9, sv9, rv9, t9, g9, recs9, rfl, h9⟩
  obtain rfl := torn3 h9.reads
  obtain ⟨sa9, sc9, rfl⟩ := h9.snap.own.slice
  obtain ⟨ra9, rc9, rfl⟩ := h9.recs.recs.slice
  obtain ⟨f9, hf9⟩ := h9.has
  have acts9 := h9.acts
  have B9 : Hid (Below w.heap.size w w9) := B8.out.trans (h9.kept.below is8'.out.2.2 (fun k hk => is8'.out.1.base k hk))
  obtain ⟨tA, fA, hck, rsA, lvA, hfA, acA⟩ := check_plain h9.rs h9.lv hf9 (by omega) (by omega) [9, 9] (by simp) sb 2
  have a8 := hid (lcheck _ (h9.bo.below (alloc_low w9 (.cells #[.int .u8 ((9 : UInt8).toNat : Int), .int .u8 ((9 : UInt8).toNat : Int)] 5))) h9.rs.good (by simp) (by show 0 + 1 < 100; omega) _ [9, 9] (isB_two w9 9 9) (by simp) (by omega) hck)
  have h9' := hid h9
  clear a7 h9 is8' B8 hf9 hck
  unfold ptr at a8
  go_wp2_with fail
  refine a8.out.mono ?_
  rintro e wA ⟨rfl, gA, stA⟩
  have hal9 := alloc_low w9 (.cells #[.int .u8 ((9 : UInt8).toNat : Int), .int .u8 ((9 : UInt8).toNat : Int)] 5)
  have rcA : RecsAt (lb9 + 2) sb gA wA (.slice ra9 (([[1], [2]] : List (List UInt8)).map ints).length rc9) [[1], [2]] :=
    ((h9'.out.recs.move (g' := g9) (F := fun _ => False) (kept_of_below hal9) (fun _ h => h.elim) (fun b hb => .inl hb))).move stA.kept (fun b hb => hb.imp id (fun e => by omega)) stA.fresh
  have iz : (ints ([] : List UInt8)).length = 0 := rfl
  have BA : Hid (Below w.heap.size w wA) := B9.out.trans ((hal9.mono h9'.out.bo.is.2.2).trans (BStep.low (h9'.out.bo.below hal9) stA))
  have aC := hid (open_live wA stA.bo.is rsA lvA (by omega) (by omega))
  have isA := hid stA.bo.is
  clear a8 stA hal9 h9' B9
  unfold ptr str at aC
  go_wp2_with fail
  refine aC.out.mono ?_
  rintro e wC ⟨lbC, svC, rvC, tC, gC, recsC, rfl, hC⟩
  obtain rfl := read8_nil hC.reads
  have snC := hC.snap.own
  obtain ⟨saC, scC, rfl⟩ := snC.slice
  obtain ⟨raC, rcC, rfl⟩ := hC.recs.recs.slice
  have BC : Hid (Below w.heap.size w wC) := BA.out.trans (hC.kept.below isA.out.2.2 (fun k hk => isA.out.1.base k hk))
  have rcC2 := recs_isR (rcA.move hC.kept (fun b hb => .inl hb) hC.fresh).recs
  have cvC : ∀ q, (convert 22 9 (.slice saC (ints [9, 9]).length scC)).run Tryz.prog (wC.drewN q) = .ok (.string ⟨#[9, 9]⟩) (wC.drewN q) := fun q => conv5 (w := wC.drewN q) snC.isB
  have hsm := hid (same_yes _ _ _ _ (rcC2.below (low3 wC (.cells #[.int .u8 1] 5) (.cells #[.int .u8 2] 5) (.cells #[.slice (some ⟨wC.heap.size, 0, none⟩) 1 1, .slice (some ⟨wC.heap.size + 1, 0, none⟩) 1 1] 22))) (isR_lit wC))
  have i99 : (ints ([9, 9] : List UInt8)).length = 2 := rfl
  have BD : Hid (∀ n, Below w.heap.size w ((((wC.alloc (.cells #[.int .u8 1] 5)).alloc (.cells #[.int .u8 2] 5)).alloc (.cells #[.slice (some ⟨wC.heap.size, 0, none⟩) 1 1, .slice (some ⟨wC.heap.size + 1, 0, none⟩) 1 1] 22)).drewN n)) := fun n => low_drewN n _ (BC.out.trans ((low3 wC _ _ _).mono BC.out.size))
  have snD : ∀ n, (convert 22 9 (.slice saC 2 scC)).run Tryz.prog ((((wC.alloc (.cells #[.int .u8 1] 5)).alloc (.cells #[.int .u8 2] 5)).alloc (.cells #[.slice (some ⟨wC.heap.size, 0, none⟩) 1 1, .slice (some ⟨wC.heap.size + 1, 0, none⟩) 1 1] 22)).drewN n) = .ok (.string ⟨#[9, 9]⟩) ((((wC.alloc (.cells #[.int .u8 1] 5)).alloc (.cells #[.int .u8 2] 5)).alloc (.cells #[.slice (some ⟨wC.heap.size, 0, none⟩) 1 1, .slice (some ⟨wC.heap.size + 1, 0, none⟩) 1 1] 22)).drewN n) := fun n => by
    have hz : Frm.IsB ((((wC.alloc (.cells #[.int .u8 1] 5)).alloc (.cells #[.int .u8 2] 5)).alloc (.cells #[.slice (some ⟨wC.heap.size, 0, none⟩) 1 1, .slice (some ⟨wC.heap.size + 1, 0, none⟩) 1 1] 22)).drewN n) (.slice saC (ints [9, 9]).length scC) (ints [9, 9]) := (snC.isB.below (low3 wC _ _ _)).below (low_drewN n _ (Below.refl _ _))
    exact conv5 hz
  clear aC hC isA rcA BA snC cvC rcC2 BC
  simp only [i99]
  go_wp2_with fail
  generalize ((wC.alloc (.cells #[.int .u8 1] 5)).alloc (.cells #[.int .u8 2] 5)).alloc (.cells #[.slice (some ⟨wC.heap.size, 0, none⟩) 1 1, .slice (some ⟨wC.heap.size + 1, 0, none⟩) 1 1] 22) = wD at *
  refine hsm.out.mono ?_
  rintro e wE ⟨rfl, n, rfl⟩
  clear hsm
  go_wp2
  go_ret
  exact ⟨rfl, BD.out n⟩
end Go.Proofs.YtihgikekkgoddaaGreatDoor
