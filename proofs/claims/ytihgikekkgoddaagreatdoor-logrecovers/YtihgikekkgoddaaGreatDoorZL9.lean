/- Contract of load. -/
import Derived.Test.YtihgikekkgoddaaGreatDoorZL8
namespace Go.Proofs.YtihgikekkgoddaaGreatDoor
open Go.RowKit Go.Shelf Sto

/-- the records of the log's file are told, the file is cut behind them and synced. -/
def loadA (nm : List UInt8) (t : St) (recs : List (List UInt8)) : Int × St :=
  if (t.read nm).2 ≠ 0 then ((t.read nm).2, t) else
  let t1 := if (encs recs).length < (t.read nm).1.length then t.truncate nm ((encs recs).length : Int) else (0, t)
  if t1.1 ≠ 0 then t1 else t1.2.sync nm
theorem read_len {B sb : Nat} {w : World} {g : Gs} {t : St} (h : Is B w sb g t) {nm bs : List UInt8} {r : Int} (hr : t.read nm = (bs, r)) : bs.length ≤ 1048576 := by
  unfold St.read at hr
  split at hr
  · cases hr; simp
  · split at hr
    · cases hr; simp
    · rename_i f hf
      cases hr
      have hm := List.mem_of_find?_eq_some hf
      rw [← h.2.1] at hm
      obtain ⟨f0, h0, rfl⟩ := List.mem_map.1 hm
      exact (h.1.files f0 h0).big
theorem encs_ge : ∀ l : List (List UInt8), l.length ≤ (encs l).length
  | [] => by simp
  | r :: l => by
    have := encs_ge l
    have h5 := Frm.fr_pos (ints r)
    show l.length + 1 ≤ (enc r ++ encs l).length
    rw [List.length_append, enc_len]; omega
theorem with_acts (t : St) (n : List UInt8) (k : Ent → Int × St) (hk : ∀ f, (k f).2.acts ≤ t.acts + 1) : (t.with n k).2.acts ≤ t.acts + 1 := by
  unfold St.with
  split
  · simp
  · split
    · simp
    · exact hk _
theorem truncate_acts (t : St) (n : List UInt8) (k : Int) : (t.truncate n k).2.acts ≤ t.acts + 1 := by
  unfold St.truncate
  refine with_acts t n _ fun f => ?_
  split
  · simp
  · simp [St.done]
/-- what load tells. -/
structure LoadOut (sb : Nat) (g' : Gs) (w w' : World) (r : Int) (v : Value) (recs : List (List UInt8)) (c c' : Nat) : Prop where
  good : r = 0 → c' = recs.length ∧ ∃ R, w.heap.size ≤ R ∧ Recs R w' v (recs.map ints) ∧ ∀ b, foot sb g' b → b < R
  bad : r ≠ 0 → c' = c ∧ v = .slice none 0 0
theorem bstep_c {B lb : Nat} {w w' : World} {g g' : Gs} {x : Lg} {t' : St} (h : BStep B lb w w' g g' x x t') : BStep B lb w w' g g' x { x with c := x.c } t' := h
set_option maxRecDepth 100000 in
set_option maxHeartbeats 4000000 in
theorem load_any (w : World) {B lb : Nat} {g : Gs} {t : St} {x : Lg} (h : Bo B w lb g t x) (hp : x.p.length ≤ 16) (hn : x.n < 100) (ha : t.acts + 100 < 4611686018427387904) {recs : List (List UInt8)} (hrecs : Read8 (t.read (nameOf x.p (pLog x.n))).1 recs) {r : Int} {t' : St} (ht : loadA (nameOf x.p (pLog x.n)) t recs = (r, t')) :
    Calls Tryz.prog 32 #[ptr lb] w fun e w' => ∃ v g' c', e = .returned (.tuple #[v, .int .i64 r]) ∧ BStep B lb w w' g g' x { x with c := c' } t' ∧ LoadOut x.sb g' w w' r v recs x.c c' := by
  obtain ⟨bs, r0, hpair⟩ : ∃ bs r0, t.read (nameOf x.p (pLog x.n)) = (bs, r0) := ⟨_, _, rfl⟩
  rw [hpair] at hrecs
  unfold loadA at ht
  rw [hpair] at ht
  simp only at ht hrecs
  have hnm : Hid (x.p ++ (kLog ++ dg x.n) = nameOf x.p (pLog x.n)) := by show _ = _; unfold nameOf; rw [text_log]
  have hlen := nameOf_len (ok_log hn) hp
  have hfile := file_any w h.log kLog x.n hn hp (by decide)
  rw [hnm.out] at hfile
  have hml : (nameOf x.p (pLog x.n)).length ≤ maxLen := by unfold maxLen; omega
  have hrd := hid (fun V (hV : Below w.heap.size w V) => read_t V (h.is.below hV) (nameOf x.p (pLog x.n)) hml hpair)
  have cn := (h.log.cells).2.2.1
  have H := hid h
  replace hfile := hid hfile
  clear h hnm hlen
  unfold str ptr kLog at *
  generalize nameOf x.p (pLog x.n) = nm at *
  go_enter Tryz.func32, Tryz.ntmps32
  go_wp2_with fail
  refine hfile.out.mono ?_
  rintro e w1 ⟨rfl, hb1⟩
  have cs1 : w1.cell? ⟨lb, 0, none⟩ = some (.pointer (some ⟨x.sb, 0, none⟩)) := ((H.out.log.below hb1).cells).1
  have hrd1 := hid (hrd.out w1 hb1)
  have HB1 := hid hb1
  clear hb1 hfile hrd
  go_wp2_with fail
  refine hrd1.out.mono ?_
  rintro e w2 ⟨a, c, rfl, hrow, hb2⟩
  have HB2 : Hid (Below w.heap.size w w2) := HB1.out.trans (hb2.mono HB1.out.size)
  by_cases h0 : r0 = 0
  · subst h0
    rw [if_neg (by simp)] at ht
    have hown := own_of_row hrow
    obtain ⟨rr, hR⟩ := hrecs
    have hbl : bs.length ≤ 1048576 := read_len H.out.is hpair
    have hrl : recs.length ≤ 1048576 := by
      have h1 := encs_ge recs
      have h2 : (encs recs).length ≤ bs.length := by
        have e := congrArg List.length hR.1
        rw [List.length_append, ← ints_encs, ints_len, ints_len] at e
        omega
      omega
    have hwh := hid (Frm.whole_any _ _ w2 hown.isB hR)
    rw [← ints_encs, ints_len] at hwh
    have HO := hid hown
    have HR := hid hR
    clear hrow hb2 hown hR hrd1
    go_wp2_with fail
    refine hwh.out.mono ?_
    rintro e w3 ⟨rfl, hb3⟩
    have HB3 : Hid (Below w.heap.size w w3) := HB2.out.trans (hb3.mono HB2.out.size)
    have own3 : Frm.Own w.heap.size w3 (.slice a bs.length c) (ints bs) := (HO.out.below hb3).base HB1.out.size
    have st3 := H.out.same HB3.out
    have hs3 : w.heap.size ≤ w3.heap.size := HB3.out.size
    clear hb3 hwh HO HB1 HB2
    generalize hL : (encs recs).length = L at *
    replace hL := hid hL
    by_cases hlt : L < bs.length
    · rw [if_pos hlt] at ht
      obtain ⟨r1, t1, hp1⟩ : ∃ r1 t1, t.truncate nm (L : Int) = (r1, t1) := ⟨_, _, rfl⟩
      have hac := truncate_acts t nm (L : Int)
      rw [hp1] at ht hac
      simp only at ht hac
      have ht1 : decide (L < bs.length) = true := by simpa using hlt
      have htr := hid (truncate_t w3 st3.bo.is nm hml (L : Int) (by omega) hp1)
      have cs3 : w3.cell? ⟨lb, 0, none⟩ = some (.pointer (some ⟨x.sb, 0, none⟩)) := (st3.bo.log.cells).1
      go_wp2_with fail
      refine htr.out.mono ?_
      rintro e w4 ⟨rfl, g4, hst4, his4⟩
      have st4 := st3.trans (st3.bo.step hst4 his4)
      have nf : ∀ b, (Value.slice a bs.length c).ownBlock = some b → ¬ foot x.sb g b := fun b hb hf => by have := H.out.is.1.lt hf; have := (own3.lt hb).1; omega
      have own4 : Frm.Own w.heap.size w4 (.slice a bs.length c) (ints bs) := own3.keep fun b hb => hst4.kept.block b (own3.lt hb).2 (nf b hb)
      have nb4 : ∀ b, (Value.slice a bs.length c).ownBlock = some b → ¬ foot x.sb g4 b := fun b hb hf => by
        rcases hst4.fresh b hf with h8 | h8
        · exact nf b hb h8
        · have := (own3.lt hb).2; omega
      clear htr
      by_cases h1 : r1 = 0
      · subst h1
        rw [if_neg (by simp)] at ht
        obtain ⟨r2, t2, hp2⟩ : ∃ r2 t2, t1.sync nm = (r2, t2) := ⟨_, _, rfl⟩
        rw [hp2] at ht
        have hsy := hid (sync_t w4 st4.bo.is nm hml (by omega) hp2)
        have cs4 : w4.cell? ⟨lb, 0, none⟩ = some (.pointer (some ⟨x.sb, 0, none⟩)) := (st4.bo.log.cells).1
        go_wp2_with fail
        refine hsy.out.mono ?_
        rintro e w5 ⟨rfl, g5, hst5, his5⟩
        have st5 := st4.trans (st4.bo.step hst5 his5)
        clear hsy
        by_cases h2 : r2 = 0
        · subst h2
          obtain rfl : r = 0 := (congrArg Prod.fst ht).symm
          obtain rfl : t' = t2 := (congrArg Prod.snd ht).symm
          have own5 : Frm.Own w.heap.size w5 (.slice a bs.length c) (ints bs) := own4.keep fun b hb => hst5.kept.block b (own4.lt hb).2 (nb4 b hb)
          have hal := hid (Frm.all_fn _ _ w5 own5.isB (by rw [ints_len]; omega))
          rw [ints_len] at hal
          have ST5 := hid st5
          clear own5 hst5 his5 st5
          go_wp2_with fail
          refine hal.out.mono ?_
          rintro e w6 ⟨bx, a6, c6, rfl, hbx6, own6, hge6, hb6⟩
          have hco := hid (collect_all w6 bx _ _ _ _ hbx6 own6.isB HR.out (by simp; omega))
          rw [List.length_map] at hco
          have ST6 : Hid (BStep B lb w w6 g g5 x x t') := ST5.out.trans (ST5.out.bo.same hb6)
          clear hal hbx6 own6 hb6
          go_wp2_with fail
          refine hco.out.mono ?_
          rintro e w7 ⟨a7, c7, rfl, hrec7, hb7⟩
          have ST7 := ST6.out.trans (ST6.out.bo.same hb7)
          have hs6 : w.heap.size ≤ w6.heap.size := ST6.out.kept.size
          have c3 : w7.cell? ⟨lb, 3, none⟩ = some (.int .i64 (x.c : Int)) := (ST7.bo.log.cells).2.2.2.1
          have f3 : w7.frozen? ⟨lb, 3, none⟩ = false := frozen_of ST7.bo.log _
          have hlt := H.out.log.lt
          have fin : Hid (BStep B lb w (w7.setCell ⟨lb, 3, none⟩ (.int .i64 (recs.length : Int))) g g5 x { x with c := recs.length } t' ∧ Recs w6.heap.size (w7.setCell ⟨lb, 3, none⟩ (.int .i64 (recs.length : Int))) (.slice a7 recs.length c7) (recs.map ints)) := by
            refine ⟨⟨⟨⟨ST7.bo.is.1.keep (fun b hb => heap_set _ _ _ _ _ (fun e => ST7.bo.apart (e ▸ hb))), ST7.bo.is.2.1, by have := ST7.bo.is.2.2; simp [World.setCell]; omega⟩, ST7.bo.log.setC _, ST7.bo.base⟩, ST7.kept.trans (kept_set (F := fun b => b = lb) _ _ _ _ rfl) (fun b hb => .inl (.inr hb)), ST7.fresh, rfl⟩, hrec7.keep (fun b h1 h2 => heap_set _ _ _ _ _ (by omega))⟩
          clear hrec7 hb7 ST7 hco
          go_wp2
          exact bodyPost_ret (v := .tuple #[.slice a7 recs.length c7, .int .i64 0]) (by simp [results, Tryz.results32, go_sem]) rfl ⟨_, g5, recs.length, rfl, fin.out.1, ⟨fun _ => ⟨rfl, w6.heap.size, hs6, fin.out.2, fun b hb => ST6.out.bo.is.1.lt hb⟩, fun h => absurd rfl h⟩⟩
        · have h2' : (r2 == 0) = false := by simpa using h2
          obtain rfl : r = r2 := (congrArg Prod.fst ht).symm
          obtain rfl : t' = t2 := (congrArg Prod.snd ht).symm
          have ST5 := hid st5
          clear hst5 his5 st5
          go_wp2
          exact bodyPost_ret (v := .tuple #[.slice none 0 0, .int .i64 r]) (by simp [results, Tryz.results32, go_sem]) rfl ⟨_, g5, x.c, rfl, ST5.out, ⟨fun h => absurd h h2, fun _ => ⟨rfl, rfl⟩⟩⟩
      · have h1' : (r1 == 0) = false := by simpa using h1
        rw [if_pos h1] at ht
        cases ht
        have ST4 := hid st4
        clear st4 hst4 his4 own4 nb4 nf st3 own3
        go_wp2
        exact bodyPost_ret (v := .tuple #[.slice none 0 0, .int .i64 r]) (by simp [results, Tryz.results32, go_sem]) rfl ⟨_, g4, x.c, rfl, ST4.out, ⟨fun h => absurd h h1, fun _ => ⟨rfl, rfl⟩⟩⟩
    · rw [if_neg hlt] at ht
      simp only at ht
      rw [if_neg (by simp)] at ht
      have ht1 : decide (L < bs.length) = false := by simpa using hlt
      have nf : ∀ b, (Value.slice a bs.length c).ownBlock = some b → ¬ foot x.sb g b := fun b hb hf => by have := H.out.is.1.lt hf; have := (own3.lt hb).1; omega
      obtain ⟨r2, t2, hp2⟩ : ∃ r2 t2, t.sync nm = (r2, t2) := ⟨_, _, rfl⟩
      rw [hp2] at ht
      have hsy := hid (sync_t w3 st3.bo.is nm hml (by omega) hp2)
      have cs4 : w3.cell? ⟨lb, 0, none⟩ = some (.pointer (some ⟨x.sb, 0, none⟩)) := (st3.bo.log.cells).1
      go_wp2_with fail
      refine hsy.out.mono ?_
      rintro e w5 ⟨rfl, g5, hst5, his5⟩
      have st5 := st3.trans (st3.bo.step hst5 his5)
      clear hsy
      by_cases h2 : r2 = 0
      · subst h2
        obtain rfl : r = 0 := (congrArg Prod.fst ht).symm
        obtain rfl : t' = t2 := (congrArg Prod.snd ht).symm
        have own5 : Frm.Own w.heap.size w5 (.slice a bs.length c) (ints bs) := own3.keep fun b hb => hst5.kept.block b (own3.lt hb).2 (nf b hb)
        have hal := hid (Frm.all_fn _ _ w5 own5.isB (by rw [ints_len]; omega))
        rw [ints_len] at hal
        have ST5 := hid st5
        clear own5 hst5 his5 st5
        go_wp2_with fail
        refine hal.out.mono ?_
        rintro e w6 ⟨bx, a6, c6, rfl, hbx6, own6, hge6, hb6⟩
        have hco := hid (collect_all w6 bx _ _ _ _ hbx6 own6.isB HR.out (by simp; omega))
        rw [List.length_map] at hco
        have ST6 : Hid (BStep B lb w w6 g g5 x x t') := ST5.out.trans (ST5.out.bo.same hb6)
        clear hal hbx6 own6 hb6
        go_wp2_with fail
        refine hco.out.mono ?_
        rintro e w7 ⟨a7, c7, rfl, hrec7, hb7⟩
        have ST7 := ST6.out.trans (ST6.out.bo.same hb7)
        have hs6 : w.heap.size ≤ w6.heap.size := ST6.out.kept.size
        have c3 : w7.cell? ⟨lb, 3, none⟩ = some (.int .i64 (x.c : Int)) := (ST7.bo.log.cells).2.2.2.1
        have f3 : w7.frozen? ⟨lb, 3, none⟩ = false := frozen_of ST7.bo.log _
        have hlt := H.out.log.lt
        have fin : Hid (BStep B lb w (w7.setCell ⟨lb, 3, none⟩ (.int .i64 (recs.length : Int))) g g5 x { x with c := recs.length } t' ∧ Recs w6.heap.size (w7.setCell ⟨lb, 3, none⟩ (.int .i64 (recs.length : Int))) (.slice a7 recs.length c7) (recs.map ints)) := by
          refine ⟨⟨⟨⟨ST7.bo.is.1.keep (fun b hb => heap_set _ _ _ _ _ (fun e => ST7.bo.apart (e ▸ hb))), ST7.bo.is.2.1, by have := ST7.bo.is.2.2; simp [World.setCell]; omega⟩, ST7.bo.log.setC _, ST7.bo.base⟩, ST7.kept.trans (kept_set (F := fun b => b = lb) _ _ _ _ rfl) (fun b hb => .inl (.inr hb)), ST7.fresh, rfl⟩, hrec7.keep (fun b h1 h2 => heap_set _ _ _ _ _ (by omega))⟩
        clear hrec7 hb7 ST7 hco
        go_wp2
        exact bodyPost_ret (v := .tuple #[.slice a7 recs.length c7, .int .i64 0]) (by simp [results, Tryz.results32, go_sem]) rfl ⟨_, g5, recs.length, rfl, fin.out.1, ⟨fun _ => ⟨rfl, w6.heap.size, hs6, fin.out.2, fun b hb => ST6.out.bo.is.1.lt hb⟩, fun h => absurd rfl h⟩⟩
      · have h2' : (r2 == 0) = false := by simpa using h2
        obtain rfl : r = r2 := (congrArg Prod.fst ht).symm
        obtain rfl : t' = t2 := (congrArg Prod.snd ht).symm
        have ST5 := hid st5
        clear hst5 his5 st5
        go_wp2
        exact bodyPost_ret (v := .tuple #[.slice none 0 0, .int .i64 r]) (by simp [results, Tryz.results32, go_sem]) rfl ⟨_, g5, x.c, rfl, ST5.out, ⟨fun h => absurd h h2, fun _ => ⟨rfl, rfl⟩⟩⟩
  · have h0' : (r0 == 0) = false := by simpa using h0
    rw [if_pos h0] at ht
    cases ht
    have fin : Hid (BStep B lb w w2 g g x { x with c := x.c } t) := H.out.same HB2.out
    clear hrow hb2 hrd1 hrecs
    go_wp2
    exact bodyPost_ret (v := .tuple #[.slice none 0 0, .int .i64 r]) (by simp [results, Tryz.results32, go_sem]) rfl ⟨_, g, x.c, rfl, fin.out, ⟨fun h => absurd h h0, fun _ => ⟨rfl, rfl⟩⟩⟩
end Go.Proofs.YtihgikekkgoddaaGreatDoor
