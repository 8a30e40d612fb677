/- For any bytes and any questions the law CodecReads of the program returns true and leaves them as they were: whatever a reader is asked for, over whatever bytes, it tells as the chapter says, or fails; the bytes stay, and what is told is the caller's own. No condition. -/
import Derived.Test.YthhfahnlcoiblaaQl
import Derived.Deep.RegionHeld3
namespace Go.Proofs.Ythhfahnlcoiblaa.codecReads
open Go.ChangeShapes Go.WideShapes Go.ChangeAt Go.RowKit
set_option linter.unusedVariables false

theorem m_bySet {B : Nat} {w0 w : World} {l : List Ob} (h : Many B w0 w l) (i : Nat) {g n c : Nat} {zs : List Int} (hi : l[i]? = some (.by_ (.slice (some ⟨g, 0, none⟩) n c) zs)) (j : Nat) (y : Int) (hy : 0 ≤ y ∧ y < 256) : Many B w0 (w.setCell ⟨g, j, none⟩ (.int .u8 y)) (l.set i (.by_ (.slice (some ⟨g, 0, none⟩) n c) (zs.set j y))) := by
  obtain ⟨F, hA, _, ht⟩ := h.get i hi
  exact ht _ _ ⟨F, ⟨own_set hA.1 j y hy, hA.2.1, fun k hk => by rw [size_set]; exact hA.2.2 k hk⟩, kept_set _ _ _ _ (hA.2.1 g rfl), fun _ hk => .inl hk⟩
theorem by_cell {B : Nat} {w0 w : World} {l : List Ob} (h : Many B w0 w l) (i : Nat) {a : Option Addr} {n c : Nat} {zs : List Int} (hi : l[i]? = some (.by_ (.slice a n c) zs)) : n = zs.length ∧ n ≤ c ∧ c ≤ 9223372036854775807 ∧ (0 < n → ∃ g, a = some ⟨g, 0, none⟩ ∧ ∀ j, j < n → w.cell? ⟨g, j, none⟩ = some (.int .u8 (zs.getD j 0)) ∧ w.frozen? ⟨g, j, none⟩ = false) := by
  have ho := m_by h i hi
  rcases ho.form with ⟨e, rfl⟩ | ⟨g, c', cur, e, h1, h2, _, h3, _, h4⟩
  · cases e; exact ⟨rfl, by omega, by omega, fun h => by omega⟩
  · cases e
    unfold maxLen at h2
    exact ⟨rfl, h1, h2, fun _ => ⟨g, rfl, fun j hj => ⟨by rw [cell_of h3]; exact h4 j hj, frozen_of h3 j⟩⟩⟩
theorem st_short (z : List Int) (at_ : Nat) (fl : Bool) (hz : z.length ≤ 20000) : ((stOf z at_ fl).getD []).length ≤ 140737488355328 := by
  cases fl with
  | true => simp [stT]
  | false => simp only [stF, Option.getD_some, List.length_drop]; omega
set_option maxRecDepth 100000 in
set_option maxHeartbeats 8000000 in
theorem walk (v0 : Value) (z : List Int) (v1 : Value) (l : List Aq) (w : World) (h0 : IsB w v0 z) (h1 : IsQs w v1 l) :
    Calls Try.prog 4 #[v0, v1] w fun e w' => e = .returned (.bool true) ∧ Below w.heap.size w w' := by
  obtain ⟨a0, c0, rfl⟩ := h0.slice
  obtain ⟨a1, c1, rfl⟩ := h1.slice
  obtain ⟨-, hb01, hb02⟩ := h0.bound
  have hml := h1.1
  unfold maxLen at hml
  replace h0 := hid h0
  replace h1 := hid h1
  by_cases hz : 20000 < z.length
  · have hz' : (20000 : Int) < (z.length : Int) := by omega
    go_enter Try.func4, Try.ntmps4
    go_wp2
    go_ret
    exact ⟨rfl, Below.refl _ _⟩
  have hz' : ¬ (20000 : Int) < (z.length : Int) := by omega
  by_cases hl : 300 < l.length
  · have hl' : (300 : Int) < (l.length : Int) := by omega
    go_enter Try.func4, Try.ntmps4
    go_wp2
    go_ret
    exact ⟨rfl, Below.refl _ _⟩
  have hl' : ¬ (300 : Int) < (l.length : Int) := by omega
  go_enter Try.func4, Try.ntmps4
  go_wp2_with fail
  refine (copy_any _ z w h0.out (by omega)).mono ?_
  rintro e w1 ⟨am, cm, rfl, o1, b1⟩
  have m1 : Many w.heap.size w w1 [.by_ (.slice am z.length cm) z] := m_own (Many.nil w) b1 o1
  replace m1 := hid m1
  clear o1 b1
  go_wp2_with fail
  refine (m_over m1.out _ (m_by m1.out 0 rfl).isB (by omega)).mono ?_
  rintro e w2 ⟨p, rfl, m2⟩
  have m3 : Many w.heap.size w (w2.alloc (.cells (qcells (.slice a0 z.length c0) 0 false) 40)) [.by_ (.slice am z.length cm) z, .rd p (some z), .bx w2.heap.size (qcells (.slice a0 z.length c0) 0 false) 40] := m_boxNew m2 _ _
  obtain ⟨-, hcm1, hcm2, -⟩ := by_cell m3 0 rfl
  replace m3 := hid m3
  clear m2 m1
  unfold qcells at m3
  go_wp2
  go_loopw [8] (fun iv wr => ∃ (j : Nat) (ys : List Int), j ≤ z.length ∧ iv = .int .i64 (j : Int) ∧ Many w.heap.size w wr [.by_ (.slice am z.length cm) ys, .rd p (some z), .bx w2.heap.size (qcells (.slice a0 z.length c0) 0 false) 40]) (fun iv _ => z.length - (intOf iv).toNat)
  case atStart => exact ⟨0, z, by omega, rfl, m3.out⟩
  case round =>
    clear m3
    obtain ⟨j, ys, hj, rfl, mj⟩ := hrel
    generalize w2.heap.size = pq at *
    by_cases hjt : j < z.length
    · have hjt' : (j : Int) < (z.length : Int) := by omega
      obtain ⟨hyl, -, -, hcc⟩ := by_cell mj 0 rfl
      obtain ⟨g, rfl, hcell⟩ := hcc (by omega)
      obtain ⟨c1', f1⟩ := hcell j hjt
      have hyb := (m_by mj 0 rfl).1.getD j (by omega)
      have ms := hid (fun y hy => m_bySet mj 0 rfl j y hy)
      clear hcell mj hyl
      generalize ys.getD j 0 = y at *
      obtain ⟨hy0, hy1⟩ := hyb
      have hy1' : y ≤ 255 := by omega
      clear hy1
      go_wp2
      go_roundw
      case rel => exact ⟨j + 1, _, by omega, by go_num, ms.out _ (by first | (rw [IntKind.wrap_u8]; omega) | omega)⟩
      case measure => simp [intOf]; omega
    · have hjt' : ¬ (j : Int) < (z.length : Int) := by omega
      have m4 := hid (show Many w.heap.size w wr [.rd p (some z), .bx pq (qcells (.slice a0 z.length c0) 0 false) 40] from mj.tail)
      clear mj
      go_wp2
      go_loopw [9] (fun iv wr => ∃ (k at_ : Nat) (fl : Bool), k ≤ l.length ∧ iv = .int .i64 (k : Int) ∧ at_ ≤ z.length ∧ Many w.heap.size w wr [.rd p (stOf z at_ fl), .bx pq (qcells (.slice a0 z.length c0) at_ fl) 40]) (fun iv _ => l.length - (intOf iv).toNat)
      case atStart => exact ⟨0, 0, false, by omega, rfl, by omega, m4.out⟩
      case round =>
        clear m4
        obtain ⟨k, at_, fl, hk, rfl, hat, mk⟩ := hrel
        obtain ⟨st, hst⟩ : ∃ st, stOf z at_ fl = st := ⟨_, rfl⟩
        rw [hst] at mk
        by_cases hlt : k < l.length
        · have hlt' : (k : Int) < (l.length : Int) := by omega
          obtain ⟨b, off, rfl, hok, hq⟩ := h1.out.get k hlt
          obtain ⟨q0, q1⟩ := hq wr mk.low
          have hq' := hid hq
          have hok1 := hok.k
          obtain ⟨hok2, hok3⟩ := hok.m
          clear hq hok
          generalize l[k] = x at *
          by_cases h5 : 5 < x.k
          · have h5' : (5 : Int) < (x.k : Int) := by omega
            replace mk := hid mk
            replace hst := hid hst
            go_wp2
            go_roundw
            case rel => exact ⟨k + 1, at_, fl, by omega, by go_num, hat, by rw [hst.out]; exact mk.out⟩
            case measure => simp [intOf]; omega
          · have h5' : ¬ (5 : Int) < (x.k : Int) := by omega
            have hsh := st_short z at_ fl (by omega)
            rw [hst] at hsh
            have hrd := hid (fun n => m_read (mk.heap n) 0 rfl x.k x.m (by omega) hok3 (rpiece_short st hsh))
            have hrd2 := hid (fun n => m_read (l := [.rd p st, .bx pq (qcells (.slice a0 z.length c0) at_ fl) 40, .bx wr.heap.size (zcells 0) 29]) ((m_boxNew mk (zcells 0) 29).heap n) 0 rfl x.k x.m (by omega) hok3 (rpiece_short st hsh))
            have hqr := hid (fun (W : World) (L : List Ob) (m : Many w.heap.size w W L) (hi : L[1]? = some (.bx pq (qcells (.slice a0 z.length c0) at_ fl) 40)) => m_qread m 1 hi h0.out hat (by omega) hst x.k x.m (by omega) hok3)
            obtain ⟨q2, q3⟩ := hq'.out (wr.alloc (.cells (zcells 0) 29)) (mk.low.trans ((alloc_below _ _).mono mk.size))
            have hbl := World.block_lt_of_cell? wr _ q0
            simp only at hbl
            unfold zcells at q2 q3
            unfold MRead at hrd hrd2
            unfold MQ at hqr
            generalize readP x.k x.m st = r at *
            obtain ⟨y, st'⟩ := r
            simp only at hrd hrd2 hqr
            replace mk := hid mk
            clear hsh hst
            go_upto_region 13 with fail
            go_cut [10] from 39 to 105 (fun s10 wx => ∃ pv a c, s10 = .pointer (some ⟨pv, 0, none⟩) ∧ Many w.heap.size w wx [.rd p st', .bx pq (qcells (.slice a0 z.length c0) at_ fl) 40, .by_ (.slice a y.l.length c) y.l, .bx pv (cellsV y (.slice a y.l.length c)) 29])
            case first =>
              clear hqr
              go_region_with (first | (go_at_call 17; refine (hrd.out _).mono ?_; rintro e w3 ⟨a, c, he, m3⟩; unfold agg str at he; subst he; replace m3 := hid m3) | (go_at_call 17; refine (hrd2.out _).mono ?_; rintro e w3 ⟨a, c, he, m4⟩; unfold agg str at he; subst he; obtain ⟨⟨z0, z1, z2, z3, z4, z5, z6⟩, zf⟩ := box_zero (m_box m4 2 rfl); replace m4 := hid m4))
              all_goals (try go_wp2_with fail)
              all_goals go_meet
              all_goals first | exact ⟨_, a, c, rfl, m_boxNew m3.out _ _⟩ | exact ⟨_, a, c, rfl, Many.swap (l := [_, _]) (m_box7 (l := [_, _]) m4.out rfl _ _ _ _ _ _ _)⟩
            case rest =>
              obtain ⟨pv, a, c, rfl, mc⟩ := hcut
              clear hrd hrd2 q0 q1 q2 q3 mk hbl
              have hcf := hid (fun W (hb : Below w.heap.size w W) (hc : W.heap[pv]? = some (.cells (cellsV y (.slice a y.l.length c)) 29)) => (show W.cell? ⟨b, off + k * 2, none⟩ = some (.int .u8 (x.k : Int)) ∧ W.cell? ⟨b, off + k * 2 + 1, none⟩ = some (.int .i64 x.m) ∧ W.cell? ⟨pv, 0, none⟩ = some (.int .u8 (y.k : Int)) ∧ W.cell? ⟨pv, 1, none⟩ = some (.int .u64 (y.u : Int)) ∧ W.cell? ⟨pv, 2, none⟩ = some (.int .i64 y.i) ∧ W.cell? ⟨pv, 3, none⟩ = some (.bool y.b) ∧ W.cell? ⟨pv, 4, none⟩ = some (.slice a y.l.length c) ∧ W.cell? ⟨pv, 5, none⟩ = some (.string ⟨y.s.toArray⟩) ∧ W.cell? ⟨pv, 6, none⟩ = some (.int .i64 y.n) by
                obtain ⟨p0, p1⟩ := hq'.out W hb
                refine ⟨p0, p1, ?_⟩
                simp only [cell_of hc]
                exact ⟨rfl, rfl, rfl, rfl, rfl, rfl, rfl⟩))
              obtain ⟨f0, f1, f2, f3, f4, f5, f6, f7, f8⟩ := hcf.out wc mc.low (m_box mc 3 rfl)
              have hqr2 := hid (fun n => hqr.out _ _ (mc.heap n) rfl)
              have hs := hid (fun W a2 c2 at' fl' (m : Many w.heap.size w W [.rd p st', .bx pq (qcells (.slice a0 z.length c0) at' fl') 40, .by_ (.slice a y.l.length c) y.l, .bx pv (cellsV y (.slice a y.l.length c)) 29, .by_ (.slice a2 y.l.length c2) y.l]) => sameV_yes y a a2 c c2 W (m_by m 2 rfl).isB (m_by m 4 rfl).isB)
              have he1 := hid (fun W a2 c2 at' fl' (m : Many w.heap.size w W [.rd p st', .bx pq (qcells (.slice a0 z.length c0) at' fl') 40, .by_ (.slice a y.l.length c) y.l, .bx pv (cellsV y (.slice a y.l.length c)) 29, .by_ (.slice a2 y.l.length c2) y.l]) => m_err m 0 rfl)
              have he2 := hid (fun W a2 c2 at' fl' (m : Many w.heap.size w W [.rd p st', .bx pq (qcells (.slice a0 z.length c0) at' fl') 40, .by_ (.slice a y.l.length c) y.l, .bx pv (cellsV y (.slice a y.l.length c)) 29, .by_ (.slice a2 y.l.length c2) y.l]) (hle : at' ≤ z.length) (hst : stOf z at' fl' = st') => m_qerr m 1 rfl h0.out hle (by omega) hst)
              have hd1 := hid (fun W a2 c2 at' fl' (m : Many w.heap.size w W [.rd p st', .bx pq (qcells (.slice a0 z.length c0) at' fl') 40, .by_ (.slice a y.l.length c) y.l, .bx pv (cellsV y (.slice a y.l.length c)) 29, .by_ (.slice a2 y.l.length c2) y.l]) => m_done m 0 rfl)
              have hd2 := hid (fun W a2 c2 at' fl' (m : Many w.heap.size w W [.rd p st', .bx pq (qcells (.slice a0 z.length c0) at' fl') 40, .by_ (.slice a y.l.length c) y.l, .bx pv (cellsV y (.slice a y.l.length c)) 29, .by_ (.slice a2 y.l.length c2) y.l]) (hle : at' ≤ z.length) (hst : stOf z at' fl' = st') => m_qdone m 1 rfl h0.out hle (by omega) hst)
              generalize errP st' = E at he1 he2
              generalize doneP st' = D at hd1 hd2
              unfold agg str at hs
              replace mc := hid mc
              clear hqr
              go_upto_region 14 with fail
              go_cut [91] from 39 to 105 (fun s91 wx => s91 = .bool false ∧ ∃ a2 c2 at' fl', stOf z at' fl' = st' ∧ at' ≤ z.length ∧ Many w.heap.size w wx [.rd p st', .bx pq (qcells (.slice a0 z.length c0) at' fl') 40, .by_ (.slice a y.l.length c) y.l, .bx pv (cellsV y (.slice a y.l.length c)) 29, .by_ (.slice a2 y.l.length c2) y.l])
              case first =>
                go_region_held3 (fun w' => w'.cell? ⟨b, off + k * 2, none⟩ = some (.int .u8 (x.k : Int)) ∧ w'.cell? ⟨b, off + k * 2 + 1, none⟩ = some (.int .i64 x.m) ∧ w'.cell? ⟨pv, 0, none⟩ = some (.int .u8 (y.k : Int)) ∧ w'.cell? ⟨pv, 1, none⟩ = some (.int .u64 (y.u : Int)) ∧ w'.cell? ⟨pv, 2, none⟩ = some (.int .i64 y.i) ∧ w'.cell? ⟨pv, 3, none⟩ = some (.bool y.b) ∧ w'.cell? ⟨pv, 4, none⟩ = some (.slice a y.l.length c) ∧ w'.cell? ⟨pv, 5, none⟩ = some (.string ⟨y.s.toArray⟩) ∧ w'.cell? ⟨pv, 6, none⟩ = some (.int .i64 y.n)) (go_keep) (first | (go_at_call 19; refine (hqr2.out _).mono ?_; rintro e w4 ⟨a2, c2, at2, fl2, he, hst2, hle2, m4⟩; clear hqr2; unfold agg str at he; subst he; obtain ⟨g0, g1, g2, g3, g4, g5, g6, g7, g8⟩ := hcf.out _ m4.low (m_box m4 3 rfl); replace m4 := hid m4; replace hst2 := hid hst2; replace hle2 := hid hle2) | (go_at_call 18; refine (hs.out _ _ _ _ _ m4.out).mono ?_; rintro e w5 ⟨rfl, b5⟩; clear hs; have m5 := m4.out.later b5; clear m4 b5; obtain ⟨i0, i1, i2, i3, i4, i5, i6, i7, i8⟩ := hcf.out _ m5.low (m_box m5 3 rfl); replace m5 := hid m5) | (go_at_call 20; refine (he1.out _ _ _ _ _ m5.out).mono ?_; rintro e w6 ⟨rfl, rfl⟩; clear he1) | (go_at_call 21; refine (he2.out _ _ _ _ _ m5.out hle2.out hst2.out).mono ?_; rintro e w7 ⟨rfl, rfl⟩; clear he2) | (go_at_call 22; refine (hd1.out _ _ _ _ _ m5.out).mono ?_; rintro e w8 ⟨rfl, rfl⟩; clear hd1) | (go_at_call 23; refine (hd2.out _ _ _ _ _ m5.out hle2.out hst2.out).mono ?_; rintro e w9 ⟨rfl, n9, rfl⟩; clear hd2))
                all_goals (try go_wp2_with fail)
                all_goals go_meet
                all_goals exact ⟨rfl, a2, c2, at2, fl2, hst2.out, hle2.out, m5.out.heap _⟩
              case rest =>
                obtain ⟨rfl, a2, c2, at2, fl2, hst2, hle2, m6⟩ := hcut
                obtain ⟨-, hbc1, hbc2, -⟩ := by_cell m6 2 rfl
                clear hqr2 hs he1 he2 hd1 hd2 hcf f0 f1 f2 f3 f4 f5 f6 f7 f8 mc hq' hat
                replace hst2 := hid hst2
                generalize hC : cellsV y (.slice a y.l.length c) = C at m6
                have hC4 : C[4]? = some (.slice a y.l.length c) := by rw [← hC]; rfl
                clear hC
                replace m6 := hid m6
                go_wp2
                go_loopw [11] (fun kv wx => ∃ (j : Nat) (ys : List Int), j ≤ y.l.length ∧ kv = .int .i64 (j : Int) ∧ Many w.heap.size w wx [.rd p st', .bx pq (qcells (.slice a0 z.length c0) at2 fl2) 40, .by_ (.slice a y.l.length c) ys, .bx pv C 29, .by_ (.slice a2 y.l.length c2) y.l]) (fun kv _ => y.l.length - (intOf kv).toNat)
                case atStart => exact ⟨0, y.l, by omega, rfl, m6.out⟩
                case round =>
                  clear m6
                  obtain ⟨j, ys, hj, rfl, mj⟩ := hrel
                  have e4 := (cell_of (m_box mj 3 rfl) 4).trans hC4
                  by_cases hjt : j < y.l.length
                  · have hjt' : (j : Int) < (y.l.length : Int) := by omega
                    obtain ⟨hyl, -, -, hcc⟩ := by_cell mj 2 rfl
                    obtain ⟨g, rfl, hcell⟩ := hcc (by omega)
                    obtain ⟨c1', f1⟩ := hcell j hjt
                    have hyb := (m_by mj 2 rfl).1.getD j (by omega)
                    have ms := hid (fun y hy => m_bySet mj 2 rfl j y hy)
                    clear hcell mj hyl
                    generalize ys.getD j 0 = u at *
                    obtain ⟨hy0, hy1⟩ := hyb
                    have hy1' : u ≤ 255 := by omega
                    clear hy1
                    go_wp2
                    go_roundw
                    case rel => exact ⟨j + 1, _, by omega, by go_num, ms.out _ (by first | (rw [IntKind.wrap_u8]; omega) | omega)⟩
                    case measure => simp [intOf]; omega
                  · have hjt' : ¬ (j : Int) < (y.l.length : Int) := by omega
                    replace mj := hid mj
                    go_wp2
                    go_roundw
                    case rel => exact ⟨k + 1, at2, fl2, by omega, by go_num, hle2, by rw [hst2.out]; exact Many.first (l := [_, _]) mj.out⟩
                    case measure => simp [intOf]; omega
        · have hlt' : ¬ (k : Int) < (l.length : Int) := by omega
          have hd1 := hid (m_done mk 0 rfl)
          have hd2 := hid (m_qdone mk 1 rfl h0.out hat (by omega) hst)
          generalize doneP st = D at *
          replace mk := hid mk
          replace hst := hid hst
          go_wp2_with (first | (go_at_call 22; refine hd1.out.mono ?_; rintro e w6 ⟨rfl, rfl⟩) | (go_at_call 23; refine hd2.out.mono ?_; rintro e w6 ⟨rfl, n6, rfl⟩))
          go_ret
          exact ⟨by simp, (mk.out.heap _).low⟩

theorem own : ownKnob Try.prog.godebug = none := by kernel_rfl
theorem laidOut : laidOutB Try.prog = true := by kernel_rfl

set_option maxRecDepth 100000 in
theorem lifted (os : Os) (started : os.Started) (H : Type) (enc : TypeId × Value → H) :
    ReturnsInHanded {} Try.checked os 4 .any (Rows.codecReadsSpec.pre6 enc Try.prog Try.f4 Rows.codecReadsRow.domain false) (Rows.codecReadsSpec.post enc Try.prog Try.f4 false true false false) := by
  refine returnsInHanded_of_change (C := Try.checked) own started (by kernel_rfl) Try.func4
    (ChangeSpec.witness6 (enc := enc) (C := Try.checked) false ⟨#[], #[.slice none 0 0, .slice none 0 0], []⟩ 8 (by kernel_rfl) (by kernel_rfl) (by kernel_rfl) (by kernel_rfl)) ?_
  intro W base args ds gs before hval0 hW hcnd _
  have hval : ∀ (j : Nat) t v, Try.f4.params[j]? = some t → args[j]? = some v → Value.okWide Try.prog W .any base t v := hval0
  have hW' := hW
  obtain ⟨p, q, hA0, hV, rfl, hfz, hnd⟩ := hW
  have hA : DataW.TrodAll enc Try.prog W 0 (fun _ => true) true Try.f4.params.toList args.toList ds p := hA0
  rw [Try.params4] at hA hval
  obtain ⟨v0, vs0, d0, ds0, p0, q0, hargs, rfl, rfl, h0, r0⟩ := trodAll_cons hA
  obtain ⟨v1, vs1, d1, ds1, p1, q1, rfl, rfl, rfl, h1, r1⟩ := trodAll_cons r0
  obtain ⟨rfl, rfl, rfl⟩ := trodAll_nil r1
  obtain rfl : args = #[v0, v1] := by cases args; simp_all
  obtain ⟨rfl, rfl⟩ := trodVars_none hV
  have k0 := h0
  have lt0 : ∀ x ∈ p0, x.block < W.heap.size := by obtain ⟨m, hm⟩ := k0; exact DataW.trod_lt m _ _ _ hm
  obtain ⟨z0, w0⟩ := open_bytes Try.underlying26 Try.underlying5 (by kernel_rfl) (hval 0 26 v0 rfl rfl) h0
  have k1 := h1
  have lt1 : ∀ x ∈ p1, x.block < W.heap.size := by obtain ⟨m, hm⟩ := k1; exact DataW.trod_lt m _ _ _ hm
  obtain ⟨l1, w1⟩ := open_asks (hval 1 35 v1 rfl rfl) h1
  clear hA0 hval0
  refine (walk v0 z0 v1 l1 W w0 w1).mono fun e W' ⟨he, bel⟩ => ?_
  subst he
  exact ⟨_, rfl, _, _, _, [], _, [], hW', trodAll_mk1 (shut_bool Try.underlying4 _), (trodAll_cons_mk (Below.trod laidOut (by kernel_rfl) (of_decide_eq_true (by kernel_rfl)) k0 bel lt0) (trodAll_cons_mk (Below.trod laidOut (by kernel_rfl) (of_decide_eq_true (by kernel_rfl)) k1 bel lt1) trodAll_mk0)), rfl, bel.frame _, fun h => by cases h⟩

theorem over : Rows.codecReadsRow.holds Try.pinned (OpenSpec.ofChange Rows.codecReadsSpec) :=
  OpenClaim.holds_of_wide 4 Try.f4 rfl rfl rfl rfl rfl rfl rfl ⟨rfl, rfl, rfl, rfl, rfl⟩ rfl rfl rfl rfl rfl (by kernel_rfl) Try.func4 (by kernel_rfl)
    (of_decide_eq_true (by kernel_rfl)) (by unfold Func.isWrapper; first | (rw [if_pos (by decide +kernel)]; kernel_rfl) | (rw [if_neg (by decide +kernel)]; exact ⟨rfl, rfl⟩))
    (fun os started H enc _ => lifted os started H enc)

theorem proved : Rows.CodecReadsSaid := over
#print axioms proved

end Go.Proofs.Ythhfahnlcoiblaa.codecReads
