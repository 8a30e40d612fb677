/- Contract of matchers: its walk. -/
import Derived.Test.YtjhodmpgggaknaaGreatDoorZB7
import Derived.Test.YtjhodmpgggaknaaGreatDoorZGK
namespace Go.Proofs.YtjhodmpgggaknaaGreatDoor
open Go.RowKit Go.Shelf Go.Maps

set_option maxRecDepth 100000 in
set_option maxHeartbeats 4000000 in
theorem matchers_any {F : Nat → Prop} {w0 w : World} {b : Nat} {ts : List Tk} {ns : List Nd} {fl : Bool} (G : Nat → Prop) (h : RdAt F w0 w b ts ns fl) (pb : Nat) (hp : ¬ F pb) (hg : G pb) (hl : w0.heap.size ≤ pb) {cs : Array Value} {T : TypeId} (hc : w.heap[pb]? = some (.cells cs T)) (hcs : cs[2]? = some (.slice none 0 0)) (hT : T ≠ 33) (hsm : ∀ t ∈ ts, t.text.length ≤ 4096) :
    Calls Tryz.prog 87 #[ptr b, .pointer (some ⟨pb, 2, none⟩)] w (SelPost F G w0 w b pb cs T ts ns fl) := by
  have ht1 : Hid (Calls Tryz.prog 43 #[.pointer (some ⟨b, 0, none⟩), .int .u8 4, .string ⟨#[123]⟩] w fun e w' => e = .returned (.bool (hd kBrace ts)) ∧ RdTo F G w0 w w' b (rst (hd kBrace ts) ts) ns fl) := takes_any G h 4 [123]
  cases e1 : hd kBrace ts
  · have hno := hid (hd_not e1)
    rw [e1] at ht1
    unfold ptr
    go_enter Tryz.func87, Tryz.ntmps87
    go_wp2_with (go_at_call 43; refine ht1.out.mono ?_; rintro e w1 ⟨rfl, r1⟩; replace r1 := hid r1)
    go_ret
    exact ⟨false, ts, rfl, r1.out, (fun _ r e => absurd e (hno.out r)), fun e => by cases e⟩
  · have hpw := lt_of_block hc
    have hcs2 : cs.setIfInBounds 2 (.slice none 0 0) = cs := by
      apply Array.ext'
      have hlt := (Array.getElem?_eq_some_iff.1 hcs).1
      have he := (Array.getElem?_eq_some_iff.1 hcs).2
      simp [Array.setIfInBounds, hlt, ← he]
    have h2lt := (Array.getElem?_eq_some_iff.1 hcs).1
    rw [e1] at ht1
    obtain ⟨q1, hq1, -⟩ := (hd_key kBrace ts).1 e1
    have hq := hid hq1
    have start : Hid (∀ w1, RdTo F no w0 w w1 b ts.tail ns fl → ∃ F1, MsI F G F1 w0 w b pb cs T ns fl ts.tail [] (.slice none 0 0) w1) := by
      rintro w1 ⟨F1, r1, k1, i1, f1⟩
      refine ⟨F1, r1, k1.mono fun k _ hk => hk.elim .inl False.elim, i1, f1, ?_, Mat.ownM_nil _ _, fun k hk => by cases hk⟩
      rw [k1.block pb hpw (by rintro (e | e); exact hp e; exact e), hcs2]
      exact hc
    replace ht1 : Hid (Calls Tryz.prog 43 #[.pointer (some ⟨b, 0, none⟩), .int .u8 4, .string ⟨#[123]⟩] w fun e w' => e = .returned (.bool true) ∧ RdTo F no w0 w w' b ts.tail ns fl) := by
      have := takes_any no h 4 [123]
      rw [show ((4 : Nat), ([123] : Tx)) = kBrace from rfl, e1] at this
      exact this
    clear h hc hq1 e1
    have hsm0 := hid hsm
    clear hsm
    unfold ptr
    go_enter Tryz.func87, Tryz.ntmps87
    go_wp2_with fail
    refine ht1.out.mono ?_
    rintro e w1 ⟨rfl, r1⟩
    obtain ⟨F1, hI⟩ := start.out w1 r1
    clear r1 ht1 start
    replace hI := hid hI
    have ht2 : Hid (Calls Tryz.prog 43 #[.pointer (some ⟨b, 0, none⟩), .int .u8 4, .string ⟨#[125]⟩] w1 fun e w' => e = .returned (.bool (hd kBraceE ts.tail)) ∧ RdTo F1 no w0 w1 w' b (rst (hd kBraceE ts.tail) ts.tail) ns fl) := takes_any no hI.out.rd 4 [125]
    cases e2 : hd kBraceE ts.tail
    · rw [e2] at ht2
      go_wp2_with fail
      refine ht2.out.mono ?_
      rintro e w2 ⟨rfl, r2⟩
      obtain ⟨F2, hI2⟩ := hI.out.call hp hpw r2 (fun h => h) (fun _ _ h => h) (fun _ h => h.elim)
      replace hI2 := hid hI2
      clear r2 hI ht2
      have hq1t : q1 = keysT ts.tail := by
        have := hq.out
        cases ts with
        | nil => cases this
        | cons t ts => simp [keysT] at this ⊢; exact this.2.symm
      have hst : Hid (selQ q1 = moreQ [] (keysT ts.tail)) := by
        show _ = _
        rw [hq1t]
        unfold selQ moreQ
        cases hk : keysT ts.tail with
        | nil => rfl
        | cons x r =>
          rw [selP, if_neg (fun e => hd_not e2 r (by rw [hk, e]))]
      clear hq1t
      go_wp2
      go_loopw [5] (fun _ wr => ∃ F1 ts1 acc sv, MsI F G F1 w0 w b pb cs T ns fl ts1 acc sv wr ∧ Suf ts1 ts ∧ Mat.mayM acc = true ∧ selQ q1 = moreQ acc (keysT ts1)) (fun _ wr => restLen wr b)
      case atStart => exact ⟨F2, ts.tail, [], _, hI2.out, Suf.tail _, by decide, hst.out⟩
      case round =>
        obtain ⟨F3, ts1, acc, sv, hJ, hsuf, hmay, hsel⟩ := hrel
        clear hI2 hst e2
        have hal := alloc_below wr (.cells #[.string ⟨#[]⟩, .int .u8 0, .string ⟨#[]⟩] 33)
        have hnb := new_block wr (.cells #[.string ⟨#[]⟩, .int .u8 0, .string ⟨#[]⟩] 33)
        have hsm2 := hid (hsuf.all (p := fun t => t.text.length ≤ 4096) (fun t ht => hsm0.out t ht))
        have hm := hid (matcher_any (fun k => k = wr.heap.size) (hJ.below hal).rd wr.heap.size (hJ.rd.old (Nat.le_refl _)) rfl hJ.rd.low.size hnb hsm2.out)
        have hmeas := hid hJ.rd.restLen
        replace hsel := hid hsel
        replace hsuf := hid hsuf
        replace hJ := hid hJ
        have hlen := hid (show acc.length ≤ 6 from (Mat.mayM_iff.1 hmay).1)
        clear hal hnb hmay
        unfold ptr at hm
        go_wp2_with fail
        refine hm.out.mono ?_
        rintro e w2 ⟨ok, ts2, rfl, r2, hno, hyes⟩
        obtain ⟨F4, hK⟩ : ∃ F4, MsI F G F4 w0 w b pb cs T ns fl ts2 acc sv w2 := by
          have hJ2 := hJ.out.below (alloc_below wr (.cells #[.string ⟨#[]⟩, .int .u8 0, .string ⟨#[]⟩] 33))
          refine hJ2.call hp hpw r2 (fun h => ?_) (fun k hk h => ?_) (fun k h => .inr ?_)
          · have := hJ.out.kept.size; omega
          · have := (hJ.out.own.lt hk).2; omega
          · have := hJ.out.kept.size; omega
        replace hK := hid hK
        clear r2 hm
        cases ok
        · have hn := hid (hno rfl)
          clear hno hyes
          go_wp2
          go_ret
          refine ⟨false, ts2, rfl, hK.out.to, (fun _ r e => ?_), fun e => by cases e⟩
          have : r = q1 := by
            have h2 := hq.out
            rw [h2] at e
            injection e with _ e
            exact e.symm
          rw [this, hsel.out]
          exact matT_none hn.out acc
        · obtain ⟨m, hm1, hbx⟩ := hyes rfl
          replace hm1 := hid hm1
          obtain ⟨mn, mo, mv⟩ := m
          simp only at hbx
          unfold str Mat.opv at hbx
          have x0 := cell_of hbx 0
          have x1 := cell_of hbx 1
          have x2 := cell_of hbx 2
          simp at x0 x1 x2
          have hblt := lt_of_block hbx
          clear hno hyes hbx
          obtain ⟨va, vc, hsv⟩ := hK.out.own.slice
          subst hsv
          have d0 : w2.cell? ⟨pb, 2, none⟩ = some (.slice va acc.length vc) := by rw [cell_of hK.out.box]; simp [h2lt]
          have hml : mn.length ≤ 4096 ∧ mv.length ≤ 4096 := by
            obtain ⟨t1, t2, t3, e, _, _, _, _, h5⟩ := matT_some hm1.out
            have h6 := hsm2.out
            rw [e] at h6
            injection h5 with h7 h8
            injection h8 with _ h9
            rw [h7, h9]
            exact ⟨h6 t1 (by simp), h6 t3 (by simp)⟩
          obtain ⟨P, hP⟩ := Classical.axiomOfChoice (r := fun (n : Nat) (p : Option Addr × Nat × World) => (∀ ty, (Builtin.append_ #[29, 29] ty #[.slice va acc.length vc, .slice (some ⟨w2.heap.size, 0, none⟩) 1 1]).run Tryz.prog ((w2.drewN n).alloc (.cells #[.string ⟨mn.toArray⟩, .int .u8 (mo.toNat : Int), .string ⟨mv.toArray⟩] 33)) = .ok (.slice p.1 (acc.length + 1) p.2.1) p.2.2) ∧ p.2.2.heap[pb]? = some (.cells (cs.setIfInBounds 2 (.slice va acc.length vc)) T) ∧ MsI F G F4 w0 w b pb cs T ns fl ts2 (acc ++ [(mn, mo, mv)]) (.slice p.1 (acc.length + 1) p.2.1) (p.2.2.setCell ⟨pb, 2, none⟩ (.slice p.1 (acc.length + 1) p.2.1))) (fun n => by
            have hb : Below w2.heap.size w2 (w2.drewN n) := below_drewN (n := n) (Below.refl _ _)
            obtain ⟨a', c', w3, g1, g2, g3, g4⟩ := pushM_run2 (hK.out.own.below hb) mn mo mv (by have := hml.1; unfold maxLen; omega) (by have := hml.2; unfold maxLen; omega) (by have := hlen.out; omega) (by have := hK.out.rd.low.size; exact this)
            have hb2 : Below (w2.drewN n).heap.size (w2.drewN n) ((w2.drewN n).alloc (.cells #[.string ⟨mn.toArray⟩, .int .u8 (mo.toNat : Int), .string ⟨mv.toArray⟩] 33)) := alloc_below _ _
            have hb3 : Below w2.heap.size w2 ((w2.drewN n).alloc (.cells #[.string ⟨mn.toArray⟩, .int .u8 (mo.toNat : Int), .string ⟨mv.toArray⟩] 33)) := hb.trans hb2
            have e1 : ((w2.drewN n).alloc (.cells #[.string ⟨mn.toArray⟩, .int .u8 (mo.toNat : Int), .string ⟨mv.toArray⟩] 33)).heap.size = w2.heap.size + 1 := by simp
            obtain ⟨k1, k2⟩ := (hK.out.below hb3).push hT hp hpw hg hl g2 g3 (by
              rcases g4 with e | e
              · exact .inl e
              · refine .inr ⟨_, e, ?_⟩
                rw [e1]
                exact Nat.le_refl _)
            exact ⟨(a', c', w3), g1, k1, k2⟩)
          have RUN : ∀ n, ∀ ty, (Builtin.append_ #[29, 29] ty #[.slice va acc.length vc, .slice (some ⟨w2.heap.size, 0, none⟩) 1 1]).run Tryz.prog ((w2.drewN n).alloc (.cells #[.string ⟨mn.toArray⟩, .int .u8 (mo.toNat : Int), .string ⟨mv.toArray⟩] 33)) = .ok (.slice (P n).1 (acc.length + 1) (P n).2.1) (P n).2.2 := fun n => (hP n).1
          have f2 : ∀ n, (P n).2.2.frozen? ⟨pb, 2, none⟩ = false := fun n => frozen_of (hP n).2.1 2
          have e2' : ∀ n, (P n).2.2.cell? ⟨pb, 2, none⟩ = some (.slice va acc.length vc) := fun n => by rw [cell_of (hP n).2.1]; simp [h2lt]
          have FIN := hid (fun n => (hP n).2.2)
          have e2a : (w2.alloc (.cells #[.string ⟨mn.toArray⟩, .int .u8 (mo.toNat : Int), .string ⟨mv.toArray⟩] 33)).cell? ⟨pb, 2, none⟩ = some (.slice va acc.length vc) := ((alloc_below w2 _).cell (p := ⟨pb, 2, none⟩) (World.block_lt_of_cell? w2 _ d0)).trans d0
          clear hP hK
          go_wp2_with fail
          replace RUN := hid RUN
          go_region_law (first | refine step_append rfl (.tmp 17) (.tmp 19) 29 rfl _ _ _ _ (by simp [Act.eval]) (by simp [Act.eval]) (RUN.out 1) ?_ | refine step_append rfl (.tmp 17) (.tmp 19) 29 rfl _ _ _ _ (by simp [Act.eval]) (by simp [Act.eval]) (RUN.out 2) ?_)
          all_goals
            have hL := FIN.out 1
            generalize (P 1).2.2.setCell ⟨pb, 2, none⟩ (.slice (P 1).1 (acc.length + 1) (P 1).2.1) = w3 at *
            generalize (P 1).1 = va' at *
            generalize (P 1).2.1 = vc' at *
            have d1 : w3.cell? ⟨pb, 2, none⟩ = some (.slice va' (acc.length + 1) vc') := by rw [cell_of hL.box]; simp [h2lt]
            have hmy := hid (Mat.mmay_any _ _ _ hL.own.isM)
            replace hL := hid hL
            clear FIN RUN f2 e2' e2a
            go_wp2_with fail
            refine hmy.out.mono ?_
            rintro e w4 ⟨rfl, b4⟩
            have hM := hid (hL.out.below b4)
            clear hL hmy b4 d1
            have hext := hid (moreQ_some hm1.out acc)
            cases e5 : Mat.mayM (acc ++ [(mn, mo, mv)])
            · go_wp2
              go_ret
              refine ⟨false, ts2, rfl, hM.out.to, (fun _ r e => ?_), fun e => by cases e⟩
              have : r = q1 := by
                have h2 := hq.out
                rw [h2] at e
                injection e with _ e
                exact e.symm
              rw [this, hsel.out, hext.out]
              cases keysT ts2 with
              | nil => rfl
              | cons y r2 =>
                simp only [e5, Bool.false_eq_true, if_false]
                split
                · rfl
                · split
                  · exact moreQ_no e5 _
                  · rfl
            · have ht3 : Hid (Calls Tryz.prog 43 #[.pointer (some ⟨b, 0, none⟩), .int .u8 4, .string ⟨#[125]⟩] w4 fun e w' => e = .returned (.bool (hd kBraceE ts2)) ∧ RdTo F4 no w0 w4 w' b (rst (hd kBraceE ts2) ts2) ns fl) := takes_any no hM.out.rd 4 [125]
              cases e6 : hd kBraceE ts2
              · rw [e6] at ht3
                go_wp2_with fail
                refine ht3.out.mono ?_
                rintro e w5 ⟨rfl, r5⟩
                obtain ⟨F5, hN⟩ := hM.out.call hp hpw r5 (fun h => h) (fun _ _ h => h) (fun _ h => h.elim)
                replace hN := hid hN
                clear r5 hM ht3
                have ht4 : Hid (Calls Tryz.prog 43 #[.pointer (some ⟨b, 0, none⟩), .int .u8 4, .string ⟨#[44]⟩] w5 fun e w' => e = .returned (.bool (hd kComma ts2)) ∧ RdTo F5 no w0 w5 w' b (rst (hd kComma ts2) ts2) ns fl) := takes_any no hN.out.rd 4 [44]
                have hb6 := hid (hd_not e6)
                cases e7 : hd kComma ts2
                · rw [e7] at ht4
                  have hb7 := hid (hd_not e7)
                  go_wp2_with fail
                  refine ht4.out.mono ?_
                  rintro e w6 ⟨rfl, r6⟩
                  obtain ⟨F6, hO⟩ := hN.out.call hp hpw r6 (fun h => h) (fun _ _ h => h) (fun _ h => h.elim)
                  replace hO := hid hO
                  clear r6 hN ht4
                  go_wp2
                  go_ret
                  refine ⟨false, ts2, rfl, hO.out.to, (fun _ r e => ?_), fun e => by cases e⟩
                  have : r = q1 := by
                    have h2 := hq.out
                    rw [h2] at e
                    injection e with _ e
                    exact e.symm
                  rw [this, hsel.out, hext.out]
                  have a6 := hb6.out
                  have a7 := hb7.out
                  cases hk : keysT ts2 with
                  | nil => rfl
                  | cons y r2 =>
                    simp only
                    rw [if_neg (fun e => a6 r2 (by rw [hk, e])), if_neg (fun e => a7 r2 (by rw [hk, e]))]
                · rw [e7] at ht4
                  obtain ⟨q7, hq7, hq8⟩ := (hd_key kComma ts2).1 e7
                  have hnext : Hid (selQ q1 = moreQ (acc ++ [(mn, mo, mv)]) (keysT ts2.tail)) := by
                    show _ = _
                    rw [hsel.out, hext.out, hq7]
                    simp only
                    rw [if_neg (by decide), if_pos trivial, hq8]
                  have hless : ts2.tail.length < ts1.length := by
                    obtain ⟨t1, t2, t3, e, _⟩ := matT_some hm1.out
                    rw [e]
                    simp
                    omega
                  have hsuf2 : Hid (Suf ts2.tail ts) := (Suf.tail _).trans (Suf.trans (by
                    obtain ⟨t1, t2, t3, e, _⟩ := matT_some hm1.out
                    exact ⟨[t1, t2, t3], by rw [e]; rfl⟩) hsuf.out)
                  go_wp2_with fail
                  refine ht4.out.mono ?_
                  rintro e w6 ⟨rfl, r6⟩
                  obtain ⟨F6, hO⟩ := hN.out.call hp hpw r6 (fun h => h) (fun _ _ h => h) (fun _ h => h.elim)
                  replace hO := hid hO
                  clear r6 hN ht4 hq7 hq8
                  go_wp2
                  exact ⟨⟨F6, ts2.tail, _, _, hO.out, hsuf2.out, e5, hnext.out⟩, by rw [hO.out.rd.restLen, hmeas.out]; exact hless⟩
              · rw [e6] at ht3
                obtain ⟨q7, hq7, hq8⟩ := (hd_key kBraceE ts2).1 e6
                have hdone : Hid (selQ q1 = some (acc ++ [(mn, mo, mv)], keysT ts2.tail)) := by
                  show _ = _
                  rw [hsel.out, hext.out, hq7]
                  simp only
                  rw [if_pos trivial, if_pos e5, hq8]
                have hsuf2 : Hid (Suf ts2.tail ts) := (Suf.tail _).trans (Suf.trans (by
                  obtain ⟨t1, t2, t3, e, _⟩ := matT_some hm1.out
                  exact ⟨[t1, t2, t3], by rw [e]; rfl⟩) hsuf.out)
                go_wp2_with fail
                refine ht3.out.mono ?_
                rintro e w5 ⟨rfl, r5⟩
                obtain ⟨F5, hN⟩ := hM.out.call hp hpw r5 (fun h => h) (fun _ _ h => h) (fun _ h => h.elim)
                replace hN := hid hN
                clear r5 hM ht3 hq7 hq8
                go_wp2
                go_ret
                exact ⟨true, ts2.tail, rfl, hN.out.to, (fun e => by cases e), fun _ => ⟨hsuf2.out, q1, _, _, _, hq.out, hdone.out, hN.out⟩⟩
    · obtain ⟨q2, hq2, hq3⟩ := (hd_key kBraceE ts.tail).1 e2
      rw [e2] at ht2
      have hfin : Hid (∀ w2, RdTo F1 no w0 w1 w2 b ts.tail.tail ns fl → SelPost F G w0 w b pb cs T ts ns fl (.returned (.bool true)) w2) := by
        intro w2 r2
        obtain ⟨F2, hI2⟩ := hI.out.call hp hpw r2 (fun h => h) (fun _ _ h => h) (fun _ h => h.elim)
        refine ⟨true, ts.tail.tail, rfl, hI2.to, (fun e => by cases e), fun _ => ⟨(Suf.tail _).trans (Suf.tail _), q1, [], _, F2, hq.out, ?_, hI2⟩⟩
        have e3 : q1 = keysT ts.tail := by
          have := hq.out
          cases ts with
          | nil => cases this
          | cons t ts => simp [keysT] at this ⊢; exact this.2.symm
        rw [e3, hq2]
        unfold selQ
        rw [selP, if_pos rfl, hq3]
        rfl
      go_wp2_with fail
      refine ht2.out.mono ?_
      rintro e w2 ⟨rfl, r2⟩
      replace r2 := hid r2
      go_wp2
      go_ret
      exact hfin.out _ r2.out
end Go.Proofs.YtjhodmpgggaknaaGreatDoor
