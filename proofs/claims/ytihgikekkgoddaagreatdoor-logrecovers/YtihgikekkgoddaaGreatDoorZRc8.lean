/- LogRecovers's walk. -/
import Derived.Test.YtihgikekkgoddaaGreatDoorZRa
namespace Go.Proofs.YtihgikekkgoddaaGreatDoor
open Go.RowKit Go.Shelf Sto

/-- the loop's state ahead of the act at i, as long as nothing failed for good. -/
def LX (B : Nat) (w : World) (lb sb xb : Nat) (l : List LAct) (i : Nat) (wr : World) : Prop :=
  ∃ sv rv S rs, ∃ sy : Nat, Live B w (xb, #[sv, .slice none 0 0, rv, .int .i64 (sy : Int), .bool false]) lb sb S rs sy rv rs wr ∧ Frm.IsB w sv (ints S) ∧ rs.length ≤ i ∧ (∀ r ∈ rs, r.length ≤ 30000) ∧ (encs rs).length ≤ bytes5 l i + 20 * i
/-- a story, and what is told by it (dead: the power is gone). -/
def GX (B : Nat) (w : World) (sb xb : Nat) (dead : Bool) (wr : World) : Prop :=
  ∃ sv nv rv S nx rs, ∃ (sy : Nat) (on : Bool), Gone B w (xb, #[sv, nv, rv, .int .i64 (sy : Int), .bool on]) sb on S nx rs sy rv dead wr ∧ Frm.IsB w sv (ints S) ∧ Frm.IsB w nv (ints nx) ∧ (∀ r ∈ rs, r.length ≤ 30000)
theorem LX.gone {B : Nat} {w : World} {lb sb xb : Nat} {l : List LAct} {i : Nat} {wr : World} (h : LX B w lb sb xb l i wr) : GX B w sb xb false wr := by
  obtain ⟨sv, rv, S, rs, sy, h1, h2, h3, h4, h5⟩ := h
  exact ⟨sv, _, rv, S, [], rs, sy, false, h1.gone false [], h2, ⟨by simp [ints], by simp [ints], none, 0, rfl, by simp [ints], by simp, .inl rfl⟩, h4⟩
theorem GX.any {B : Nat} {w : World} {sb xb : Nat} {d : Bool} {wr : World} (h : GX B w sb xb d wr) : GX B w sb xb false wr := by
  obtain ⟨sv, nv, rv, S, nx, rs, sy, on, ⟨g, t, k1, k2, k3, k4, k5⟩, h2, h3, h4⟩ := h
  exact ⟨sv, nv, rv, S, nx, rs, sy, on, ⟨g, t, k1, k2, k3, (fun e => by cases e), k5⟩, h2, h3, h4⟩
theorem rc_dies {B : Nat} {w : World} {lb sb xb : Nat} {l : List LAct} {i : Nat} {wr : World} (h : LX B w lb sb xb l i wr ∨ GX B w sb xb true wr) :
    Calls Tryz.prog 17 #[ptr sb] wr fun e w' => (e = .returned (.bool true) ∧ GX B w sb xb false w') ∨ (e = .returned (.bool false) ∧ LX B w lb sb xb l i w') := by
  rcases h with ⟨sv, rv, S, rs, sy, h1, h2, h3, h4, h5⟩ | ⟨sv, nv, rv, S, nx, rs, sy, on, h1, h2, h3, h4⟩
  · refine (rc_dead h1).mono ?_
    rintro e w' ⟨d, rfl, h6⟩
    have hx : LX B w lb sb xb l i w' := ⟨sv, rv, S, rs, sy, h6, h2, h3, h4, h5⟩
    cases d
    · exact .inr ⟨rfl, hx⟩
    · exact .inl ⟨rfl, hx.gone⟩
  · refine (rc_gone h1).mono ?_
    rintro e w' ⟨rfl, h6⟩
    exact .inl ⟨rfl, GX.any (d := true) ⟨sv, nv, rv, S, nx, rs, sy, on, h6, h2, h3, h4⟩⟩
theorem Live.set {B : Nat} {w : World} {xb : Nat} {cs : Array Value} {lb sb : Nat} {S : List UInt8} {rs ms : List (List UInt8)} {sy : Nat} {rv : Value} {wr : World} (h : Live B w (xb, cs) lb sb S rs sy rv ms wr) (j : Nat) (u : Value) : Live B w (xb, cs.setIfInBounds j u) lb sb S rs sy rv ms (wr.setCell ⟨xb, j, none⟩ u) :=
  h.rebox rfl rfl rfl (size_set _ _ _) (fun _ hk => heap_set _ _ _ _ _ hk) (heap_set_at h.box u)
theorem Gone.set {B : Nat} {w : World} {xb : Nat} {cs : Array Value} {sb : Nat} {on : Bool} {S nx : List UInt8} {rs : List (List UInt8)} {sy : Nat} {rv : Value} {d : Bool} {wr : World} (h : Gone B w (xb, cs) sb on S nx rs sy rv d wr) (j : Nat) (u : Value) : Gone B w (xb, cs.setIfInBounds j u) sb on S nx rs sy rv d (wr.setCell ⟨xb, j, none⟩ u) :=
  h.rebox rfl rfl rfl (size_set _ _ _) (fun _ hk => heap_set _ _ _ _ _ hk) (heap_set_at h.box u)
theorem Live.rows {B : Nat} {w : World} {bx : Nat × Array Value} {lb sb : Nat} {S : List UInt8} {rs ms : List (List UInt8)} {sy : Nat} {rv : Value} {wr : World} (h : Live B w bx lb sb S rs sy rv ms wr) : ∃ a c, rv = .slice a ms.length c := by
  obtain ⟨g, t, N, s, f, k1, k2, k3, k4, k5, k6, k7, k8, k9⟩ := h; exact k9.slice
theorem Live.below {B : Nat} {w : World} {bx : Nat × Array Value} {lb sb : Nat} {S : List UInt8} {rs ms : List (List UInt8)} {sy : Nat} {rv : Value} {wr w' : World} (h : Live B w bx lb sb S rs sy rv ms wr) (hb : Below wr.heap.size wr w') : Live B w bx lb sb S rs sy rv ms w' := by
  obtain ⟨g, t, N, s, f, k1, k2, k3, k4, k5, k6, k7, k8, k9⟩ := h
  have hk : Kept (fun _ => False) wr w' := kept_of_below hb
  exact ⟨g, t, N, s, f, k1.below hb, k2, k3, k4, k5, k6, k7, k8.trans (hb.mono k1.is.2.2), k9.move hk (fun _ h => h.elim) (fun b hb => .inl hb)⟩
theorem Live.drewN {B : Nat} {w : World} {bx : Nat × Array Value} {lb sb : Nat} {S : List UInt8} {rs ms : List (List UInt8)} {sy : Nat} {rv : Value} {wr : World} (h : Live B w bx lb sb S rs sy rv ms wr) (n : Nat) : Live B w bx lb sb S rs sy rv ms (wr.drewN n) := h.below (low_drewN n _ (Below.refl _ _))
theorem bytes5_mono (l : List LAct) {i j : Nat} (h : i ≤ j) : bytes5 l i ≤ bytes5 l j := by
  unfold bytes5
  have e : l.take j = l.take i ++ (l.drop i).take (j - i) := by
    conv => lhs; rw [← List.take_append_drop i (l.take j), List.take_take, Nat.min_eq_left h, List.drop_take]
  rw [e, List.map_append, List.sum_append]; omega
set_option maxRecDepth 100000 in
set_option maxHeartbeats 8000000 in
theorem logRecovers_walk (vl : Value) (l : List LAct) (pw ag : Int) (vk : Value) (ks : List Int) (w : World) (hL : IsLs w vl l) (hK : IsI w vk ks) : Calls Tryz.prog 4 #[vl, .int .i64 pw, .int .i64 ag, vk] w fun e w' => e = .returned (.bool true) ∧ Below w.heap.size w w' := by
  obtain ⟨a, c, rfl⟩ : ∃ a c, vl = .slice a l.length c := by obtain ⟨_, a, c, e, _⟩ := hL; exact ⟨a, c, e⟩
  obtain ⟨ka, kc, rfl⟩ : ∃ a c, vk = .slice a ks.length c := by obtain ⟨_, _, a, c, e, _⟩ := hK; exact ⟨a, c, e⟩
  have hmax := hL.1
  unfold maxLen at hmax
  have g5 := hid (great5 _ l w hL)
  replace hL := hid hL
  replace hK := hid hK
  go_enter Tryz.func4, Tryz.ntmps4
  go_wp2_with fail
  refine g5.out.mono ?_
  rintro e w1 ⟨r, rfl, hfit, hb1⟩
  clear g5
  have aw : Hid (∀ W, Below w.heap.size w W → Calls Tryz.prog 13 #[] W fun e w' => e = .returned (.bool true) ∧ Below w.heap.size w w') := fun W hW => (awake_any W).mono fun e w' ⟨h1, h2⟩ => ⟨h1, hW.trans (h2.mono hW.size)⟩
  cases r with
  | true =>
    clear hfit hL hK
    have a1 := hid (aw.out w1 hb1)
    clear aw hb1
    go_wp2_with fail
    refine a1.out.mono ?_
    rintro e w2 ⟨rfl, hb2⟩
    clear a1
    go_wp2
    go_ret
    exact ⟨rfl, hb2⟩
  | false =>
    have hF := hid (hfit rfl)
    clear hfit
    replace hL := hid (hL.out.below hb1)
    replace hK := hid (hK.out.below hb1)
    have B1 : Hid (∀ W, Below w1.heap.size w1 W → Below w.heap.size w W) := fun W hW => hb1.trans (hW.mono hb1.size)
    clear hb1
    have hn := hid (new_t w1)
    go_wp2_with fail
    refine hn.out.mono ?_
    rintro e w2 ⟨rfl, hI2, hb2, hs2⟩
    have ho := hid (rc_begin hI2 hb2)
    clear hn hI2 hb2 hs2
    unfold ptr str at ho
    unfold ptr
    generalize w1.heap.size + 1 = sb at *
    go_wp2_with fail
    refine ho.out.mono ?_
    rintro e w3 ⟨lb, x1, x2, x3, x4, rfl, h3⟩
    obtain ⟨q, hq, eq⟩ := mod_small pw 59 (by omega)
    rw [show ((59 : Nat) : Int) + 1 = 60 from rfl] at eq
    have hp := hid (rc_power h3 q (by omega))
    clear ho h3
    unfold ptr at hp
    go_wp2_with fail
    rw [eq]
    refine hp.out.mono ?_
    rintro e w4 ⟨rfl, h4⟩
    clear hp eq
    have X4 : Hid (LX w1.heap.size w1 lb sb w4.heap.size l 0 (w4.alloc (.cells #[.slice none 0 0, .slice none 0 0, .slice none 0 0, .int .i64 0, .bool false] 47))) :=
      ⟨_, _, [], [], 0, h4.start _, ⟨by simp [ints], by simp [ints], none, 0, rfl, by simp [ints], by simp, .inl rfl⟩, by simp, by simp, by simp [encs]⟩
    clear h4
    go_wp2_with fail
    generalize w4.alloc (.cells #[.slice none 0 0, .slice none 0 0, .slice none 0 0, .int .i64 0, .bool false] 47) = w5 at *
    generalize w4.heap.size = xb at *
    go_loopw [15] (fun iv wr => ∃ (i : Nat), i ≤ l.length ∧ iv = .int .i64 i ∧ (LX w1.heap.size w1 lb sb xb l i wr ∨ GX w1.heap.size w1 sb xb true wr)) (fun iv _ => l.length - (intOf iv).toNat)
    case atStart => exact ⟨0, by omega, rfl, .inl X4.out⟩
    case round =>
      rename_i wr
      clear X4
      obtain ⟨i, hi, rfl, hX⟩ := hrel
      by_cases hlt : i < l.length
      · have hlt' : (i : Int) < (l.length : Int) := by omega
        have d1 := hid (rc_dies hX)
        clear hX
        unfold ptr at d1
        go_wp2_with fail
        refine d1.out.mono ?_
        clear d1
        rintro e w6 (⟨rfl, h6⟩ | ⟨rfl, h6⟩)
        · obtain ⟨sv, nv, rv, S, nx, rs, sy, on, k1, k2, k3, k4⟩ := h6
          have s1 := hid (rc_crash k1 (Nat.le_refl _) (fun r hr => by have := k4 r hr; omega) _ ks hK.out)
          unfold ptr at s1
          clear k1 k4
          go_wp2_with fail
          refine s1.out.mono ?_
          clear s1
          rintro e w7 ⟨rfl, S', R, hfit, k7⟩
          obtain ⟨q2, hq2, eq2⟩ := mod_small ag 5 (by omega)
          rw [show ((5 : Nat) : Int) + 1 = 6 from rfl] at eq2
          have s2 := hid (rc_power2 k7 q2 (by omega))
          unfold ptr at s2
          clear k7
          go_wp2_with fail
          rw [eq2]
          refine s2.out.mono ?_
          clear s2 eq2
          rintro e w8 ⟨rfl, k8⟩
          have s3 := hid (rc_open1 k8)
          unfold ptr str at s3
          clear k8
          go_wp2_with fail
          refine s3.out.mono ?_
          clear s3
          rintro e w9 (⟨lb9, tv, uv, rfl, k9⟩ | ⟨q9, hq9, rfl, k9⟩)
          · obtain ⟨bb, r9, t9, u9⟩ := k9.box (Nat.le_refl _)
            simp only at bb
            have e0 : w9.cell? ⟨xb, 0, none⟩ = some sv := by rw [cell_of bb]; rfl
            have e1 : w9.cell? ⟨xb, 1, none⟩ = some nv := by rw [cell_of bb]; rfl
            have e2 : w9.cell? ⟨xb, 2, none⟩ = some rv := by rw [cell_of bb]; rfl
            have e3 : w9.cell? ⟨xb, 3, none⟩ = some (.int .i64 (sy : Int)) := by rw [cell_of bb]; rfl
            have e4 : w9.cell? ⟨xb, 4, none⟩ = some (.bool on) := by rw [cell_of bb]; rfl
            have s4 := hid (fits_yes w9 sv nv rv S nx rs sy on tv uv S' R hfit (k2.below k9.low) (k3.below k9.low) r9 t9 u9)
            clear bb r9 t9 u9
            go_wp2_with fail
            refine s4.out.mono ?_
            clear s4 e0 e1 e2 e3 e4
            rintro e w10 ⟨rfl, L10⟩
            have s5 := hid (rc_crash2 (k9.below L10) (Nat.le_refl _) _ ks hK.out)
            unfold ptr at s5
            clear k9 L10
            go_wp2_with fail
            refine s5.out.mono ?_
            clear s5
            rintro e w11 ⟨rfl, k11⟩
            have s6 := hid (rc_open2 k11 (Nat.le_refl _))
            unfold ptr str at s6
            clear k11
            go_wp2_with fail
            refine s6.out.mono ?_
            clear s6
            rintro e w12 ⟨lb12, dv, gv, rfl, k12⟩
            have bb := k12.box
            simp only at bb
            have e0 : w12.cell? ⟨xb, 0, none⟩ = some sv := by rw [cell_of bb]; rfl
            have e1 : w12.cell? ⟨xb, 1, none⟩ = some nv := by rw [cell_of bb]; rfl
            have e2 : w12.cell? ⟨xb, 2, none⟩ = some rv := by rw [cell_of bb]; rfl
            have e3 : w12.cell? ⟨xb, 3, none⟩ = some (.int .i64 (sy : Int)) := by rw [cell_of bb]; rfl
            have e4 : w12.cell? ⟨xb, 4, none⟩ = some (.bool on) := by rw [cell_of bb]; rfl
            have s7 := hid (fits_yes w12 sv nv rv S nx rs sy on dv gv S' R hfit (k2.below k12.low) (k3.below k12.low) k12.row k12.snap k12.recs)
            clear bb
            go_wp2_with fail
            refine s7.out.mono ?_
            clear s7 e0 e1 e2 e3 e4
            rintro e w13 ⟨rfl, L13⟩
            obtain ⟨t12, u12⟩ := k12.first rfl
            have v1 : (convert 22 9 tv).run Tryz.prog w13 = .ok (str S') w13 := conv5 (t12.below L13)
            have v2 : (convert 22 9 dv).run Tryz.prog w13 = .ok (str S') w13 := conv5 (k12.snap.below L13)
            unfold str at v1 v2
            have sm := hid (same_yes w13 _ _ _ (u12.below L13) (k12.recs.below L13))
            have a1 : Hid (∀ m, _) := fun m => aw.out (w13.drewN m) (low_drewN m _ (B1.out _ (k12.low.trans (L13.mono k12.low.size))))
            clear k12 t12 u12 L13 aw B1
            go_wp2_with fail
            refine sm.out.mono ?_
            clear sm v1 v2
            rintro e w14 ⟨rfl, m, rfl⟩
            have a2 := hid (a1.out m)
            clear a1
            generalize w13.drewN m = wE at *
            go_wp2_with fail
            refine a2.out.mono ?_
            clear a2
            rintro e w15 ⟨rfl, hb⟩
            go_wp2
            go_ret
            exact ⟨rfl, hb⟩
          · have hq9' : (q9 == 0) = false := by simpa using hq9
            have s4 := hid (rc_lost k9)
            unfold ptr at s4
            clear k9
            go_wp2_with fail
            refine s4.out.mono ?_
            clear s4
            rintro e w10 ⟨rfl, k10⟩
            have s5 := hid (rc_crash3 k10 (Nat.le_refl _) _ ks hK.out (.slice none 0 0) (.slice none 0 0))
            unfold ptr at s5
            clear k10
            go_wp2_with fail
            refine s5.out.mono ?_
            clear s5
            rintro e w11 ⟨rfl, k11⟩
            have s6 := hid (rc_open2 k11 (Nat.le_refl _))
            unfold ptr str at s6
            clear k11
            go_wp2_with fail
            refine s6.out.mono ?_
            clear s6
            rintro e w12 ⟨lb12, dv, gv, rfl, k12⟩
            have bb := k12.box
            simp only at bb
            have e0 : w12.cell? ⟨xb, 0, none⟩ = some sv := by rw [cell_of bb]; rfl
            have e1 : w12.cell? ⟨xb, 1, none⟩ = some nv := by rw [cell_of bb]; rfl
            have e2 : w12.cell? ⟨xb, 2, none⟩ = some rv := by rw [cell_of bb]; rfl
            have e3 : w12.cell? ⟨xb, 3, none⟩ = some (.int .i64 (sy : Int)) := by rw [cell_of bb]; rfl
            have e4 : w12.cell? ⟨xb, 4, none⟩ = some (.bool on) := by rw [cell_of bb]; rfl
            have s7 := hid (fits_yes w12 sv nv rv S nx rs sy on dv gv S' R hfit (k2.below k12.low) (k3.below k12.low) k12.row k12.snap k12.recs)
            clear bb
            go_wp2_with fail
            refine s7.out.mono ?_
            clear s7 e0 e1 e2 e3 e4
            rintro e w13 ⟨rfl, L13⟩
            have a2 := hid (aw.out w13 (B1.out _ (k12.low.trans (L13.mono k12.low.size))))
            clear k12 L13 aw B1
            go_wp2_with fail
            refine a2.out.mono ?_
            clear a2
            rintro e w15 ⟨rfl, hb⟩
            go_wp2
            go_ret
            exact ⟨rfl, hb⟩
        · obtain ⟨b, off, fb, fk, vb, rfl, hkd, hnl, _, _, _, hB, d0, _, _, _, _, _, _, _, d8⟩ := hL.out.at i hlt
          obtain ⟨va, vc, rfl⟩ := hB.slice
          rw [ints_len] at d8
          have AT : Hid (∀ W, Below w1.heap.size w1 W → W.cell? ⟨b, off + i * 9, none⟩ = some (.int .u8 (l[i].kind : Int)) ∧ W.cell? ⟨b, off + i * 9 + 8, none⟩ = some (.slice va l[i].b.length vc) ∧ Frm.IsB W (.slice va l[i].b.length vc) (ints l[i].b)) := fun W hW =>
            ⟨(hW.cell (p := ⟨b, off + i * 9, none⟩) (World.block_lt_of_cell? w1 _ d0)).trans d0, (hW.cell (p := ⟨b, off + i * 9 + 8, none⟩) (World.block_lt_of_cell? w1 _ d8)).trans d8, by have := hB.below hW; rw [ints_len] at this; exact this⟩
          have HB : Hid (Frm.IsB w1 (.slice va l[i].b.length vc) (ints l[i].b)) := by have := hB; rw [ints_len] at this; exact this
          have h8 := bytes5_succ l i hlt
          have h9 := bytes5_mono l (show i + 1 ≤ l.length by omega)
          have hF2 := hF.out.2
          have hF1 := hF.out.1
          have hlb : l[i].b.length ≤ 30000 := by omega
          clear hB d0 d8
          obtain ⟨sv, rv, S, rs, sy, k1, k2, k3, k4, k5⟩ := h6
          obtain ⟨ra, rc, rfl⟩ := k1.rows
          obtain ⟨c0, c8, hB6⟩ := AT.out _ k1.low
          by_cases t12 : l[i].kind % 16 = 12
          · have t12' : ((l[i].kind : Int)).tmod 16 = 12 := by rw [Int.tmod_eq_emod_of_nonneg (by omega)]; omega
            have s1 := hid (rc_sync k1)
            unfold ptr at s1
            clear k1 hB6
            generalize l[i].kind = kd at *
            go_wp2_with fail
            refine s1.out.mono ?_
            clear s1
            rintro e w7 (⟨rfl, k7⟩ | ⟨rfl, k7⟩)
            · have bb := k7.box
              simp only at bb
              have e2 : w7.cell? ⟨xb, 2, none⟩ = some (.slice ra rs.length rc) := by rw [cell_of bb]; rfl
              have e3 : w7.cell? ⟨xb, 3, none⟩ = some (.int .i64 (sy : Int)) := by rw [cell_of bb]; rfl
              have f3 := frozen_of bb 3
              clear bb
              have FIN : Hid (LX w1.heap.size w1 lb sb xb l (i + 1) (w7.setCell ⟨xb, 3, none⟩ (.int .i64 (rs.length : Int)))) := ⟨sv, _, S, rs, rs.length, k7.set 3 _, k2, by omega, k4, by omega⟩
              clear k7
              go_wp2
              exact ⟨⟨i + 1, by omega, by simp, .inl FIN.out⟩, by simp only [intOf]; omega⟩
            · have FIN : Hid (LX w1.heap.size w1 lb sb xb l (i + 1) w7) := ⟨sv, _, S, rs, sy, k7, k2, by omega, k4, by omega⟩
              clear k7
              go_wp2
              exact ⟨⟨i + 1, by omega, by simp, .inl FIN.out⟩, by simp only [intOf]; omega⟩
          · have t12' : ¬ ((l[i].kind : Int)).tmod 16 = 12 := by rw [Int.tmod_eq_emod_of_nonneg (by omega)]; omega
            by_cases t13 : l[i].kind % 16 = 13
            · have t13' : ((l[i].kind : Int)).tmod 16 = 13 := by rw [Int.tmod_eq_emod_of_nonneg (by omega)]; omega
              have s1 := hid (rc_check k1 _ _ hB6 hlb)
              unfold ptr at s1
              clear k1 hB6
              generalize l[i].kind = kd at *
              go_wp2_with fail
              refine s1.out.mono ?_
              clear s1
              rintro e w7 (⟨rfl, k7⟩ | ⟨qe, rfl, hqe, k7⟩)
              · obtain ⟨_, c8', _⟩ := AT.out _ k7.low
                have bb := k7.box
                simp only at bb
                have e0 : w7.cell? ⟨xb, 0, none⟩ = some sv := by rw [cell_of bb]; rfl
                have e1 : w7.cell? ⟨xb, 1, none⟩ = some (.slice none 0 0) := by rw [cell_of bb]; rfl
                have e2 : w7.cell? ⟨xb, 2, none⟩ = some (.slice ra rs.length rc) := by rw [cell_of bb]; rfl
                have e3 : w7.cell? ⟨xb, 3, none⟩ = some (.int .i64 (sy : Int)) := by rw [cell_of bb]; rfl
                have e4 : w7.cell? ⟨xb, 4, none⟩ = some (.bool false) := by rw [cell_of bb]; rfl
                have f0 := frozen_of bb 0
                have f1 := frozen_of bb 1
                have f2 := frozen_of bb 2
                have f3 := frozen_of bb 3
                have f4 := frozen_of bb 4
                clear bb
                have FIN : Hid (LX w1.heap.size w1 lb sb xb l (i + 1) (((((w7.setCell ⟨xb, 0, none⟩ (.slice va l[i].b.length vc)).setCell ⟨xb, 1, none⟩ (.slice none 0 0)).setCell ⟨xb, 2, none⟩ (.slice none 0 0)).setCell ⟨xb, 3, none⟩ (.int .i64 0)).setCell ⟨xb, 4, none⟩ (.bool false))) :=
                  ⟨_, .slice none 0 0, l[i].b, [], 0, ((((k7.set 0 _).set 1 _).set 2 _).set 3 _).set 4 _, HB.out, by simp, by simp, by simp [encs]⟩
                clear k7
                go_wp2
                exact ⟨⟨i + 1, by omega, by simp, .inl FIN.out⟩, by simp only [intOf]; omega⟩
              · have hqe' : (qe == 0) = false := by simpa using hqe
                have bb := k7.box
                simp only at bb
                have e1 : w7.cell? ⟨xb, 1, none⟩ = some (.slice none 0 0) := by rw [cell_of bb]; rfl
                have e4 : w7.cell? ⟨xb, 4, none⟩ = some (.bool false) := by rw [cell_of bb]; rfl
                have f1 := frozen_of bb 1
                have f4 := frozen_of bb 4
                clear bb
                obtain ⟨_, c9, _⟩ := AT.out _ (k7.set 4 (.bool true)).low
                have FIN : Hid (GX w1.heap.size w1 sb xb true ((w7.setCell ⟨xb, 4, none⟩ (.bool true)).setCell ⟨xb, 1, none⟩ (.slice va l[i].b.length vc))) :=
                  ⟨sv, _, _, S, l[i].b, rs, sy, true, (k7.set 4 _).set 1 _, k2, HB.out, k4⟩
                clear k7
                go_wp2
                exact ⟨⟨i + 1, by omega, by simp, .inr FIN.out⟩, by simp only [intOf]; omega⟩
            · have t13' : ¬ ((l[i].kind : Int)).tmod 16 = 13 := by rw [Int.tmod_eq_emod_of_nonneg (by omega)]; omega
              by_cases t10 : 10 ≤ l[i].kind % 16
              · have t10' : 10 ≤ ((l[i].kind : Int)).tmod 16 := by rw [Int.tmod_eq_emod_of_nonneg (by omega)]; omega
                have er := enc_room5 l[i].b (by omega)
                have s1 := hid (rc_append k1 _ _ hB6 hlb (by omega) (by omega))
                unfold ptr at s1
                clear k1 hB6
                generalize l[i].kind = kd at *
                go_wp2_with fail
                refine s1.out.mono ?_
                clear s1
                rintro e w7 (⟨rfl, k7⟩ | ⟨rfl, k7⟩)
                · obtain ⟨_, c8', _⟩ := AT.out _ k7.low
                  have bb := k7.box
                  simp only at bb
                  have e2 : w7.cell? ⟨xb, 2, none⟩ = some (.slice ra rs.length rc) := by rw [cell_of bb]; rfl
                  clear bb
                  have e2a : (w7.alloc (.cells #[.slice va l[i].b.length vc] 22)).cell? ⟨xb, 2, none⟩ = some (.slice ra rs.length rc) := ((alloc_low w7 _).cell (p := ⟨xb, 2, none⟩) (World.block_lt_of_cell? w7 _ e2)).trans e2
                  obtain ⟨P, hP⟩ := Classical.axiomOfChoice (r := fun (n : Nat) (p : Option Addr × Nat × World) => (∀ ty, (Builtin.append_ #[25, 25] ty #[.slice ra rs.length rc, .slice (some ⟨w7.heap.size, 0, none⟩) 1 1]).run Tryz.prog ((w7.drewN n).alloc (.cells #[.slice va l[i].b.length vc] 22)) = .ok (.slice p.1 (rs.length + 1) p.2.1) p.2.2) ∧ Live w1.heap.size w1 (xb, #[sv, .slice none 0 0, .slice ra rs.length rc, .int .i64 (sy : Int), .bool false]) lb sb S (rs ++ [l[i].b]) sy (.slice p.1 (rs.length + 1) p.2.1) (rs ++ [l[i].b]) p.2.2) (fun n => by
                    obtain ⟨a8, d8, w8, run8, k8⟩ := rc_push (k7.drewN n) (by omega) HB.out
                    exact ⟨(a8, d8, w8), run8, k8⟩)
                  have RUN : ∀ n, ∀ ty, (Builtin.append_ #[25, 25] ty #[.slice ra rs.length rc, .slice (some ⟨w7.heap.size, 0, none⟩) 1 1]).run Tryz.prog ((w7.drewN n).alloc (.cells #[.slice va l[i].b.length vc] 22)) = .ok (.slice (P n).1 (rs.length + 1) (P n).2.1) (P n).2.2 := fun n => (hP n).1
                  have e2' : ∀ n, (P n).2.2.cell? ⟨xb, 2, none⟩ = some (.slice ra rs.length rc) := fun n => by rw [cell_of (hP n).2.box]; rfl
                  have f2 : ∀ n, (P n).2.2.frozen? ⟨xb, 2, none⟩ = false := fun n => frozen_of (hP n).2.box 2
                  have FIN : Hid (∀ n m, LX w1.heap.size w1 lb sb xb l (i + 1) (((P n).2.2.setCell ⟨xb, 2, none⟩ (.slice (P n).1 (rs.length + 1) (P n).2.1)).drewN m)) := fun n m => by
                    refine ⟨sv, _, S, rs ++ [l[i].b], sy, ((hP n).2.set 2 _).drewN m, k2, by simp; omega, fun r hr => ?_, ?_⟩
                    · rcases List.mem_append.1 hr with h | h
                      · exact k4 r h
                      · simp at h; subst h; exact hlb
                    · rw [encs_app, encs_one, List.length_append]; omega
                  clear k7 hP
                  clear hkd hnl h8 h9 hF2 hF1 hlb k3 k5 er t12' t13' t10' t12 t13 t10
                  go_wp2_with fail
                  replace RUN := hid RUN
                  go_region_law (first | refine step_append rfl (.tmp 108) (.tmp 114) 25 rfl _ _ _ _ (by simp [Act.eval]) (by simp [Act.eval]) (RUN.out 1) ?_ | refine step_append rfl (.tmp 108) (.tmp 114) 25 rfl _ _ _ _ (by simp [Act.eval]) (by simp [Act.eval]) (RUN.out 2) ?_ | refine step_append rfl (.tmp 108) (.tmp 114) 25 rfl _ _ _ _ (by simp [Act.eval]) (by simp [Act.eval]) (RUN.out 3) ?_ | refine step_append rfl (.tmp 108) (.tmp 114) 25 rfl _ _ _ _ (by simp [Act.eval]) (by simp [Act.eval]) (RUN.out 4) ?_)
                  all_goals
                    go_wp2
                    exact ⟨⟨i + 1, by omega, by simp, .inl (FIN.out 1 0)⟩, by simp only [intOf]; omega⟩
                · have FIN : Hid (LX w1.heap.size w1 lb sb xb l (i + 1) w7) := ⟨sv, _, S, rs, sy, k7, k2, by omega, k4, by omega⟩
                  clear k7
                  go_wp2
                  exact ⟨⟨i + 1, by omega, by simp, .inl FIN.out⟩, by simp only [intOf]; omega⟩
              · have t10' : ¬ 10 ≤ ((l[i].kind : Int)).tmod 16 := by rw [Int.tmod_eq_emod_of_nonneg (by omega)]; omega
                have FIN : Hid (LX w1.heap.size w1 lb sb xb l (i + 1) w6) := ⟨sv, _, S, rs, sy, k1, k2, by omega, k4, by omega⟩
                clear k1 hB6
                generalize l[i].kind = kd at *
                go_wp2
                exact ⟨⟨i + 1, by omega, by simp, .inl FIN.out⟩, by simp only [intOf]; omega⟩
      · have hlt' : ¬ (i : Int) < (l.length : Int) := by omega
        obtain rfl : i = l.length := by omega
        have h6 : GX w1.heap.size w1 sb xb false wr := hX.elim LX.gone GX.any
        clear hX
        obtain ⟨sv, nv, rv, S, nx, rs, sy, on, k1, k2, k3, k4⟩ := h6
        have s1 := hid (rc_crash k1 (Nat.le_refl _) (fun r hr => by have := k4 r hr; omega) _ ks hK.out)
        unfold ptr at s1
        clear k1 k4
        go_wp2_with fail
        refine s1.out.mono ?_
        clear s1
        rintro e w7 ⟨rfl, S', R, hfit, k7⟩
        obtain ⟨q2, hq2, eq2⟩ := mod_small ag 5 (by omega)
        rw [show ((5 : Nat) : Int) + 1 = 6 from rfl] at eq2
        have s2 := hid (rc_power2 k7 q2 (by omega))
        unfold ptr at s2
        clear k7
        go_wp2_with fail
        rw [eq2]
        refine s2.out.mono ?_
        clear s2 eq2
        rintro e w8 ⟨rfl, k8⟩
        have s3 := hid (rc_open1 k8)
        unfold ptr str at s3
        clear k8
        go_wp2_with fail
        refine s3.out.mono ?_
        clear s3
        rintro e w9 (⟨lb9, tv, uv, rfl, k9⟩ | ⟨q9, hq9, rfl, k9⟩)
        · obtain ⟨bb, r9, t9, u9⟩ := k9.box (Nat.le_refl _)
          simp only at bb
          have e0 : w9.cell? ⟨xb, 0, none⟩ = some sv := by rw [cell_of bb]; rfl
          have e1 : w9.cell? ⟨xb, 1, none⟩ = some nv := by rw [cell_of bb]; rfl
          have e2 : w9.cell? ⟨xb, 2, none⟩ = some rv := by rw [cell_of bb]; rfl
          have e3 : w9.cell? ⟨xb, 3, none⟩ = some (.int .i64 (sy : Int)) := by rw [cell_of bb]; rfl
          have e4 : w9.cell? ⟨xb, 4, none⟩ = some (.bool on) := by rw [cell_of bb]; rfl
          have s4 := hid (fits_yes w9 sv nv rv S nx rs sy on tv uv S' R hfit (k2.below k9.low) (k3.below k9.low) r9 t9 u9)
          clear bb r9 t9 u9
          go_wp2_with fail
          refine s4.out.mono ?_
          clear s4 e0 e1 e2 e3 e4
          rintro e w10 ⟨rfl, L10⟩
          have s5 := hid (rc_crash2 (k9.below L10) (Nat.le_refl _) _ ks hK.out)
          unfold ptr at s5
          clear k9 L10
          go_wp2_with fail
          refine s5.out.mono ?_
          clear s5
          rintro e w11 ⟨rfl, k11⟩
          have s6 := hid (rc_open2 k11 (Nat.le_refl _))
          unfold ptr str at s6
          clear k11
          go_wp2_with fail
          refine s6.out.mono ?_
          clear s6
          rintro e w12 ⟨lb12, dv, gv, rfl, k12⟩
          have bb := k12.box
          simp only at bb
          have e0 : w12.cell? ⟨xb, 0, none⟩ = some sv := by rw [cell_of bb]; rfl
          have e1 : w12.cell? ⟨xb, 1, none⟩ = some nv := by rw [cell_of bb]; rfl
          have e2 : w12.cell? ⟨xb, 2, none⟩ = some rv := by rw [cell_of bb]; rfl
          have e3 : w12.cell? ⟨xb, 3, none⟩ = some (.int .i64 (sy : Int)) := by rw [cell_of bb]; rfl
          have e4 : w12.cell? ⟨xb, 4, none⟩ = some (.bool on) := by rw [cell_of bb]; rfl
          have s7 := hid (fits_yes w12 sv nv rv S nx rs sy on dv gv S' R hfit (k2.below k12.low) (k3.below k12.low) k12.row k12.snap k12.recs)
          clear bb
          go_wp2_with fail
          refine s7.out.mono ?_
          clear s7 e0 e1 e2 e3 e4
          rintro e w13 ⟨rfl, L13⟩
          obtain ⟨t12, u12⟩ := k12.first rfl
          have v1 : (convert 22 9 tv).run Tryz.prog w13 = .ok (str S') w13 := conv5 (t12.below L13)
          have v2 : (convert 22 9 dv).run Tryz.prog w13 = .ok (str S') w13 := conv5 (k12.snap.below L13)
          unfold str at v1 v2
          have sm := hid (same_yes w13 _ _ _ (u12.below L13) (k12.recs.below L13))
          have a1 : Hid (∀ m, _) := fun m => aw.out (w13.drewN m) (low_drewN m _ (B1.out _ (k12.low.trans (L13.mono k12.low.size))))
          clear k12 t12 u12 L13 aw B1
          go_wp2_with fail
          refine sm.out.mono ?_
          clear sm v1 v2
          rintro e w14 ⟨rfl, m, rfl⟩
          have a2 := hid (a1.out m)
          clear a1
          generalize w13.drewN m = wE at *
          go_wp2_with fail
          refine a2.out.mono ?_
          clear a2
          rintro e w15 ⟨rfl, hb⟩
          go_wp2
          go_ret
          exact ⟨rfl, hb⟩
        · have hq9' : (q9 == 0) = false := by simpa using hq9
          have s4 := hid (rc_lost k9)
          unfold ptr at s4
          clear k9
          go_wp2_with fail
          refine s4.out.mono ?_
          clear s4
          rintro e w10 ⟨rfl, k10⟩
          have s5 := hid (rc_crash3 k10 (Nat.le_refl _) _ ks hK.out (.slice none 0 0) (.slice none 0 0))
          unfold ptr at s5
          clear k10
          go_wp2_with fail
          refine s5.out.mono ?_
          clear s5
          rintro e w11 ⟨rfl, k11⟩
          have s6 := hid (rc_open2 k11 (Nat.le_refl _))
          unfold ptr str at s6
          clear k11
          go_wp2_with fail
          refine s6.out.mono ?_
          clear s6
          rintro e w12 ⟨lb12, dv, gv, rfl, k12⟩
          have bb := k12.box
          simp only at bb
          have e0 : w12.cell? ⟨xb, 0, none⟩ = some sv := by rw [cell_of bb]; rfl
          have e1 : w12.cell? ⟨xb, 1, none⟩ = some nv := by rw [cell_of bb]; rfl
          have e2 : w12.cell? ⟨xb, 2, none⟩ = some rv := by rw [cell_of bb]; rfl
          have e3 : w12.cell? ⟨xb, 3, none⟩ = some (.int .i64 (sy : Int)) := by rw [cell_of bb]; rfl
          have e4 : w12.cell? ⟨xb, 4, none⟩ = some (.bool on) := by rw [cell_of bb]; rfl
          have s7 := hid (fits_yes w12 sv nv rv S nx rs sy on dv gv S' R hfit (k2.below k12.low) (k3.below k12.low) k12.row k12.snap k12.recs)
          clear bb
          go_wp2_with fail
          refine s7.out.mono ?_
          clear s7 e0 e1 e2 e3 e4
          rintro e w13 ⟨rfl, L13⟩
          have a2 := hid (aw.out w13 (B1.out _ (k12.low.trans (L13.mono k12.low.size))))
          clear k12 L13 aw B1
          go_wp2_with fail
          refine a2.out.mono ?_
          clear a2
          rintro e w15 ⟨rfl, hb⟩
          go_wp2
          go_ret
          exact ⟨rfl, hb⟩
end Go.Proofs.YtihgikekkgoddaaGreatDoor
