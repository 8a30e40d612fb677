/- Contracts of encode, Append, Sync. -/
import Derived.Test.YtihgikekkgoddaaGreatDoorZL13
import Derived.Deep.RegionHeld
namespace Go.Proofs.YtihgikekkgoddaaGreatDoor
open Go.RowKit Go.Shelf Sto

set_option maxHeartbeats 1000000 in
theorem lencode (w : World) {B lb : Nat} {g : Gs} {t : St} {x : Lg} (h : Bo B w lb g t x) (hbr : x.br = false) (v : Value) (bs : List UInt8) (hv : Frm.IsB w v (ints bs)) (hl : bs.length ≤ 65536) :
    Calls Tryz.prog 35 #[ptr lb, v] w fun e w' => ∃ a c, e = .returned (.tuple #[.slice a (enc bs).length c, .int .i64 0]) ∧ Frm.Own w.heap.size w' (.slice a (enc bs).length c) (ints (enc bs)) ∧ Below w.heap.size w w' := by
  have hm := lmay_any w h.log
  rw [hbr, if_neg (by simp)] at hm
  have he := Frm.encode_any v (ints bs) w hv (by rw [ints_len]; exact hl)
  rw [← ints_enc, ints_len] at he
  obtain ⟨a0, c0, rfl⟩ := hv.slice
  replace hm := hid hm
  replace he := hid he
  clear h hv
  unfold ptr at *
  generalize (ints bs).length = n0 at *
  go_enter Tryz.func35, Tryz.ntmps35
  go_wp2_with fail
  refine hm.out.mono ?_
  rintro e w1 ⟨rfl, rfl⟩
  go_wp2_with fail
  refine he.out.mono ?_
  rintro e w2 ⟨a, c, rfl, h1, h2⟩
  replace h1 := hid h1
  replace h2 := hid h2
  go_wp2
  go_ret2
  exact ⟨a, c, rfl, h1.out, h2.out⟩
set_option maxHeartbeats 1000000 in
theorem lencode_br (w : World) {lb : Nat} {x : Lg} (h : LogAt w lb x) (hbr : x.br = true) (a0 : Option Addr) (n0 c0 : Nat) :
    Calls Tryz.prog 35 #[ptr lb, .slice a0 n0 c0] w fun e w' => e = .returned (.tuple #[.slice none 0 0, .int .i64 50]) ∧ w' = w := by
  have hm := lmay_any w h
  rw [hbr, if_pos rfl] at hm
  replace hm := hid hm
  clear h
  unfold ptr at *
  go_enter Tryz.func35, Tryz.ntmps35
  go_wp2_with fail
  refine hm.out.mono ?_
  rintro e w1 ⟨rfl, rfl⟩
  go_wp2
  go_ret2
  exact ⟨rfl, rfl⟩
/-- the log's file. -/
theorem file_is (w : World) {lb : Nat} {x : Lg} (h : LogAt w lb x) (q : Part) (hq : q.ok) (hk : q.kind ≠ kNew) (hp : x.p.length ≤ 16) : Calls Tryz.prog 37 #[ptr lb, str q.kind, .int .i64 (q.num : Int)] w fun e w' => e = .returned (str (nameOf x.p q)) ∧ Below w.heap.size w w' := by
  have hn : q.num < 100 ∧ q.kind.length ≤ 5 := by
    rcases ok_cases hq with rfl | ⟨n, hn, rfl⟩ | ⟨n, _, hn, rfl⟩
    · exact absurd rfl hk
    · exact ⟨hn, by simp [pLog, kLog]⟩
    · exact ⟨hn, by simp [pSnap, kSnap]⟩
  have := file_any w h q.kind q.num hn.1 hp hn.2
  rw [show x.p ++ (q.kind ++ dg q.num) = nameOf x.p q by unfold nameOf Part.text; rw [if_neg hk]] at this
  exact this
def appX (x : Lg) (r : Int) : Lg := if r = 0 then { x with c := x.c + 1 } else x
theorem appX_yes (x : Lg) : appX x 0 = { x with c := x.c + 1 } := if_pos rfl
theorem appX_no (x : Lg) {r : Int} (h : r ≠ 0) : appX x r = x := if_neg h
def appendA (x : Lg) (t : St) (bs : List UInt8) : Int × St := if x.br then (50, t) else t.append (nameOf x.p (pLog x.n)) (enc bs)
set_option maxRecDepth 100000 in
set_option maxHeartbeats 4000000 in
theorem lappend (w : World) {B lb : Nat} {g : Gs} {t : St} {x : Lg} (h : Bo B w lb g t x) (hp : x.p.length ≤ 16) (hn : x.n < 100) (v : Value) (bs : List UInt8) (hv : Frm.IsB w v (ints bs)) (hl : bs.length ≤ 65536) (hc : x.c ≤ 1000000) (ha : t.acts < 4611686018427387904) {r : Int} {t' : St} (ht : appendA x t bs = (r, t')) :
    Calls Tryz.prog 8 #[ptr lb, v] w fun e w' => e = .returned (.int .i64 r) ∧ ∃ g', BStep B lb w w' g g' x (appX x r) t' := by
  obtain ⟨a0, c0, hv0⟩ := hv.slice
  cases hbr : x.br with
  | true =>
    have hec := hid (lencode_br w h.log hbr a0 (ints bs).length c0)
    have H := hid h
    unfold appendA at ht
    rw [hbr, if_pos rfl] at ht
    cases ht
    subst hv0
    clear h hv
    unfold ptr at *
    generalize (ints bs).length = n0 at *
    go_enter Tryz.func8, Tryz.ntmps8
    go_wp2_with fail
    refine hec.out.mono ?_
    rintro e w1 ⟨rfl, rfl⟩
    go_wp2
    go_ret
    exact ⟨rfl, g, by rw [appX_no x (by omega)]; exact H.out.same (Below.refl _ _)⟩
  | false =>
    have hec := hid (lencode w h hbr v bs hv hl)
    have H := hid h
    unfold appendA at ht
    rw [hbr, if_neg (by simp)] at ht
    subst hv0
    clear h hv
    unfold ptr at *
    generalize (ints bs).length = n0 at *
    go_enter Tryz.func8, Tryz.ntmps8
    go_wp2_with fail
    refine hec.out.mono ?_
    rintro e w1 ⟨a, c, rfl, hown, hb1⟩
    have H1 := H.out.below hb1
    have cells : Hid (∀ V, Below w1.heap.size w1 V → V.cell? ⟨lb, 0, none⟩ = some (.pointer (some ⟨x.sb, 0, none⟩)) ∧ V.cell? ⟨lb, 2, none⟩ = some (.int .i64 (x.n : Int))) := fun V hV => ⟨((H1.below hV).log.cells).1, ((H1.below hV).log.cells).2.2.1⟩
    have hfile : Hid (∀ V, Below w1.heap.size w1 V → Calls Tryz.prog 37 #[.pointer (some ⟨lb, 0, none⟩), .string ⟨#[108, 111, 103, 46]⟩, .int .i64 (x.n : Int)] V fun e w' => e = .returned (.string ⟨(nameOf x.p (pLog x.n)).toArray⟩) ∧ Below V.heap.size V w') := fun V hV => file_is V (H1.below hV).log (pLog x.n) (ok_log hn) log_ne_new hp
    have hlen := nameOf_len (ok_log hn) hp
    have happ := hid (fun V (hV : Below w1.heap.size w1 V) => append_t V (H1.below hV).is (nameOf x.p (pLog x.n)) (by omega) _ (enc bs) (isB_ints (hown.below hV).isB) ha ht)
    have fin : Hid (∀ V w2 g', Below w1.heap.size w1 V → Step B x.sb V w2 g g' → Is B w2 x.sb g' t' → w2.cell? ⟨lb, 0, none⟩ = some (.pointer (some ⟨x.sb, 0, none⟩)) ∧ w2.cell? ⟨lb, 2, none⟩ = some (.int .i64 (x.n : Int)) ∧ w2.cell? ⟨lb, 3, none⟩ = some (.int .i64 (x.c : Int)) ∧ w2.frozen? ⟨lb, 3, none⟩ = false ∧ Hid (BStep B lb w w2 g g' x x t')) := by
      intro V w2 g' hV hst his
      have st := (H.out.same (hb1.trans (hV.mono hb1.size))).trans ((H1.below hV).step hst his)
      have hcl := st.bo.log.cells
      exact ⟨hcl.1, hcl.2.2.1, hcl.2.2.2.1, frozen_of st.bo.log _, st⟩
    obtain ⟨cs, cn⟩ := cells.out w1 (Below.refl _ _)
    have hbW : Hid (Below w1.heap.size w1 w1 ∧ Below w1.heap.size w1 w1.drew) := ⟨Below.refl _ _, (Below.refl _ _).drew⟩
    have hfr : ∀ (x' : Lg) (w' w'' : World), True := fun _ _ _ => trivial
    clear hown hb1 H1 hlen hec hfr ht
    unfold str ptr at happ
    generalize nameOf x.p (pLog x.n) = nm at *
    generalize (enc bs).length = ml at *
    go_wp2_with fail
    go_region_held (fun w' => w'.cell? ⟨lb, 0, none⟩ = some (.pointer (some ⟨x.sb, 0, none⟩)) ∧ w'.cell? ⟨lb, 2, none⟩ = some (.int .i64 (x.n : Int))) (go_keep) (first | (go_at_call 37; refine (hfile.out _ (by first | exact hbW.out.1 | exact hbW.out.2)).mono ?_; rintro e w2 ⟨rfl, hb2⟩; replace hb2 := hid (show Below w1.heap.size w1 w2 from hbW.out.2.trans (hb2.mono (Nat.le_refl _))); obtain ⟨cs2, cn2⟩ := cells.out w2 hb2.out) | (go_at_call 36; refine (happ.out _ hb2.out).mono ?_; rintro e w3 ⟨rfl, g', hst, his⟩; obtain ⟨cs3, cn3, cc3, fc3, st3⟩ := fin.out w2 w3 g' hb2.out hst his; clear hst his))
    all_goals
      by_cases h0 : r = 0
      · subst h0
        have fin2 : Hid (BStep B lb w (w3.setCell ⟨lb, 3, none⟩ (.int .i64 ((x.c : Int) + 1))) g g' x { x with c := x.c + 1 } t') := by
          have st := st3.out
          have hL := st.bo.log.setC (x.c + 1)
          rw [show ((x.c + 1 : Nat) : Int) = (x.c : Int) + 1 by omega] at hL
          exact ⟨⟨⟨st.bo.is.1.keep (fun b hb => heap_set _ _ _ _ _ (fun e => st.bo.apart (e ▸ hb))), st.bo.is.2.1, by have := st.bo.is.2.2; simp [World.setCell]; omega⟩, hL, st.bo.base⟩, st.kept.trans (kept_set (F := fun b => b = lb) _ _ _ _ rfl) (fun b hb => .inl (.inr hb)), st.fresh, rfl⟩
        have hc9 : (x.c : Int) + 1 ≤ 9223372036854775807 := by omega
        go_wp2
        go_ret
        exact ⟨rfl, g', by rw [appX_yes]; exact fin2.out⟩
      · have h0' : (r == 0) = false := by simpa using h0
        replace h0 := hid h0
        go_wp2
        go_ret
        exact ⟨rfl, g', by rw [appX_no x h0.out]; exact st3.out⟩
def syncA (x : Lg) (t : St) : Int × St := if x.br then (50, t) else t.sync (nameOf x.p (pLog x.n))
set_option maxRecDepth 100000 in
set_option maxHeartbeats 2000000 in
theorem lsync (w : World) {B lb : Nat} {g : Gs} {t : St} {x : Lg} (h : Bo B w lb g t x) (hp : x.p.length ≤ 16) (hn : x.n < 100) (ha : t.acts < 4611686018427387904) {r : Int} {t' : St} (ht : syncA x t = (r, t')) :
    Calls Tryz.prog 9 #[ptr lb] w fun e w' => e = .returned (.int .i64 r) ∧ ∃ g', BStep B lb w w' g g' x x t' := by
  have hm := lmay_any w h.log
  cases hbr : x.br with
  | true =>
    rw [hbr, if_pos rfl] at hm
    replace hm := hid hm
    have H := hid h
    unfold syncA at ht
    rw [hbr, if_pos rfl] at ht
    cases ht
    clear h
    unfold ptr at *
    go_enter Tryz.func9, Tryz.ntmps9
    go_wp2_with fail
    refine hm.out.mono ?_
    rintro e w1 ⟨rfl, rfl⟩
    go_wp2
    go_ret
    exact ⟨rfl, g, H.out.same (Below.refl _ _)⟩
  | false =>
    rw [hbr, if_neg (by simp)] at hm
    replace hm := hid hm
    unfold syncA at ht
    rw [hbr, if_neg (by simp)] at ht
    have cells : Hid (∀ V, Below w.heap.size w V → V.cell? ⟨lb, 0, none⟩ = some (.pointer (some ⟨x.sb, 0, none⟩)) ∧ V.cell? ⟨lb, 2, none⟩ = some (.int .i64 (x.n : Int))) := fun V hV => ⟨((h.below hV).log.cells).1, ((h.below hV).log.cells).2.2.1⟩
    have hfile : Hid (∀ V, Below w.heap.size w V → Calls Tryz.prog 37 #[.pointer (some ⟨lb, 0, none⟩), .string ⟨#[108, 111, 103, 46]⟩, .int .i64 (x.n : Int)] V fun e w' => e = .returned (.string ⟨(nameOf x.p (pLog x.n)).toArray⟩) ∧ Below V.heap.size V w') := fun V hV => file_is V (h.below hV).log (pLog x.n) (ok_log hn) log_ne_new hp
    have hlen := nameOf_len (ok_log hn) hp
    have happ := hid (fun V (hV : Below w.heap.size w V) => sync_t V (h.below hV).is (nameOf x.p (pLog x.n)) (by unfold maxLen; omega) ha ht)
    have fin : Hid (∀ V w2 g', Below w.heap.size w V → Step B x.sb V w2 g g' → Is B w2 x.sb g' t' → w2.cell? ⟨lb, 0, none⟩ = some (.pointer (some ⟨x.sb, 0, none⟩)) ∧ w2.cell? ⟨lb, 2, none⟩ = some (.int .i64 (x.n : Int)) ∧ Hid (BStep B lb w w2 g g' x x t')) := by
      intro V w2 g' hV hst his
      have st := (h.same hV).trans ((h.below hV).step hst his)
      exact ⟨(st.bo.log.cells).1, (st.bo.log.cells).2.2.1, st⟩
    obtain ⟨cs, cn⟩ := cells.out w (Below.refl _ _)
    have hbW : Hid (Below w.heap.size w w ∧ Below w.heap.size w w.drew) := ⟨Below.refl _ _, (Below.refl _ _).drew⟩
    clear h hlen ht
    unfold str ptr at happ
    unfold ptr at hm ⊢
    generalize nameOf x.p (pLog x.n) = nm at *
    go_enter Tryz.func9, Tryz.ntmps9
    go_wp2_with fail
    refine hm.out.mono ?_
    rintro e w1 ⟨rfl, hw1⟩
    subst hw1
    go_wp2_with fail
    go_region_held (fun w' => w'.cell? ⟨lb, 0, none⟩ = some (.pointer (some ⟨x.sb, 0, none⟩)) ∧ w'.cell? ⟨lb, 2, none⟩ = some (.int .i64 (x.n : Int))) (go_keep) (first | (go_at_call 37; refine (hfile.out _ (by first | exact hbW.out.1 | exact hbW.out.2)).mono ?_; rintro e w2 ⟨rfl, hb2⟩; replace hb2 := hid (show Below w1.heap.size w1 w2 from hbW.out.2.trans (hb2.mono (Nat.le_refl _))); obtain ⟨cs2, cn2⟩ := cells.out w2 hb2.out) | (go_at_call 39; refine (happ.out _ hb2.out).mono ?_; rintro e w3 ⟨rfl, g', hst, his⟩; obtain ⟨cs3, cn3, st3⟩ := fin.out w2 w3 g' hb2.out hst his; clear hst his))
    all_goals
      go_wp2
      go_ret
      exact ⟨rfl, g', st3.out⟩
end Go.Proofs.YtihgikekkgoddaaGreatDoor
