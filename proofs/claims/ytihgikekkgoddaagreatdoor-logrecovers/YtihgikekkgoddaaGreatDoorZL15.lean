/- Contracts of writeSnapshot's and moveOn's steps. -/
import Derived.Test.YtihgikekkgoddaaGreatDoorZL14
import Derived.Deep.RegionHeld
namespace Go.Proofs.YtihgikekkgoddaaGreatDoor
open Go.RowKit Go.Shelf Sto

set_option maxHeartbeats 400000 in
theorem ws1 (w : World) (bl lb : Nat) (Q : Int → World → Prop) (hb : w.cell? ⟨bl, 0, none⟩ = some (ptr lb)) (hc : Calls Tryz.prog 26 #[ptr lb] w (Errs Q)) : Calls Tryz.prog 68 #[ptr bl] w (Errs Q) := by
  replace hc := hid hc
  unfold ptr at *
  go_enter Tryz.func68, Tryz.ntmps68
  go_wp2_with fail
  refine hc.out.mono ?_
  rintro e w1 ⟨r, rfl, hq⟩
  go_wp2
  go_ret
  exact ⟨r, rfl, hq⟩
set_option maxHeartbeats 400000 in
theorem ws2 (w : World) (bl bn bf lb sb : Nat) (nm : List UInt8) (a : Option Addr) (n c : Nat) (Q : Int → World → Prop) (hb : w.cell? ⟨bl, 0, none⟩ = some (ptr lb)) (hs : w.cell? ⟨lb, 0, none⟩ = some (ptr sb)) (hn : w.cell? ⟨bn, 0, none⟩ = some (str nm)) (hf : w.cell? ⟨bf, 0, none⟩ = some (.slice a n c)) (hc : Calls Tryz.prog 36 #[ptr sb, str nm, .slice a n c] w.drew (Errs Q)) : Calls Tryz.prog 69 #[ptr bl, ptr bn, ptr bf] w (Errs Q) := by
  replace hc := hid hc
  unfold ptr str at *
  go_enter Tryz.func69, Tryz.ntmps69
  go_wp2_with fail
  go_region_with (go_at_call 36; refine hc.out.mono ?_; rintro e w1 ⟨r, rfl, hq⟩; replace hq := hid hq)
  all_goals
    go_wp2
    go_ret
    exact ⟨r, rfl, hq.out⟩
set_option maxHeartbeats 400000 in
theorem ws3 (w : World) (bl bn lb sb : Nat) (nm : List UInt8) (Q : Int → World → Prop) (hb : w.cell? ⟨bl, 0, none⟩ = some (ptr lb)) (hs : w.cell? ⟨lb, 0, none⟩ = some (ptr sb)) (hn : w.cell? ⟨bn, 0, none⟩ = some (str nm)) (hc : Calls Tryz.prog 39 #[ptr sb, str nm] w.drew (Errs Q)) : Calls Tryz.prog 70 #[ptr bl, ptr bn] w (Errs Q) := by
  replace hc := hid hc
  unfold ptr str at *
  go_enter Tryz.func70, Tryz.ntmps70
  go_wp2_with fail
  go_region_with (go_at_call 39; refine hc.out.mono ?_; rintro e w1 ⟨r, rfl, hq⟩; replace hq := hid hq)
  all_goals
    go_wp2
    go_ret
    exact ⟨r, rfl, hq.out⟩
set_option maxRecDepth 100000 in
set_option maxHeartbeats 2000000 in
theorem ws4 (w : World) (bl bn bm : Nat) {B lb : Nat} {g : Gs} {t : St} {x : Lg} (h : Bo B w lb g t x) (hp : x.p.length ≤ 16) (nm : List UInt8) (hnl : nm.length ≤ maxLen) (m : Nat) (hm0 : 1 ≤ m) (hm : m < 100) (ha : t.acts < 4611686018427387904) (hb : w.cell? ⟨bl, 0, none⟩ = some (ptr lb)) (hn : w.cell? ⟨bn, 0, none⟩ = some (str nm)) (hmm : w.cell? ⟨bm, 0, none⟩ = some (.int .i64 (m : Int))) {r : Int} {t' : St} (ht : t.rename nm (nameOf x.p (pSnap m)) = (r, t'))
    (hbl : ¬ foot x.sb g bl) (hbn : ¬ foot x.sb g bn) (hbm : ¬ foot x.sb g bm) :
    Calls Tryz.prog 71 #[ptr bl, ptr bn, ptr bm] w fun e w' => e = .returned (.int .i64 r) ∧ ∃ g', BStep B lb w w' g g' x x t' := by
  have cells : Hid (∀ V, Below w.heap.size w V → V.cell? ⟨bl, 0, none⟩ = some (.pointer (some ⟨lb, 0, none⟩)) ∧ V.cell? ⟨lb, 0, none⟩ = some (.pointer (some ⟨x.sb, 0, none⟩)) ∧ V.cell? ⟨bn, 0, none⟩ = some (.string ⟨nm.toArray⟩) ∧ V.cell? ⟨bm, 0, none⟩ = some (.int .i64 (m : Int))) := fun V hV =>
    ⟨(hV.cell (p := ⟨bl, 0, none⟩) (World.block_lt_of_cell? w _ hb)).trans hb, ((h.below hV).log.cells).1, (hV.cell (p := ⟨bn, 0, none⟩) (World.block_lt_of_cell? w _ hn)).trans hn, (hV.cell (p := ⟨bm, 0, none⟩) (World.block_lt_of_cell? w _ hmm)).trans hmm⟩
  have hfile : Hid (∀ V, Below w.heap.size w V → Calls Tryz.prog 37 #[.pointer (some ⟨lb, 0, none⟩), .string ⟨#[115, 110, 97, 112, 46]⟩, .int .i64 (m : Int)] V fun e w' => e = .returned (.string ⟨(nameOf x.p (pSnap m)).toArray⟩) ∧ Below V.heap.size V w') := fun V hV => file_is V (h.below hV).log (pSnap m) (ok_snap hm0 hm) snap_ne_new hp
  have hlen := nameOf_len (ok_snap hm0 hm) hp
  have happ := hid (fun V (hV : Below w.heap.size w V) => rename_t V (h.below hV).is nm (nameOf x.p (pSnap m)) hnl (by omega) ha ht)
  have fin : Hid (∀ V w2 g', Below w.heap.size w V → Step B x.sb V w2 g g' → Is B w2 x.sb g' t' → w2.cell? ⟨bl, 0, none⟩ = some (.pointer (some ⟨lb, 0, none⟩)) ∧ w2.cell? ⟨lb, 0, none⟩ = some (.pointer (some ⟨x.sb, 0, none⟩)) ∧ w2.cell? ⟨bn, 0, none⟩ = some (.string ⟨nm.toArray⟩) ∧ w2.cell? ⟨bm, 0, none⟩ = some (.int .i64 (m : Int)) ∧ Hid (BStep B lb w w2 g g' x x t')) := by
    intro V w2 g' hV hst his
    have st := (h.same hV).trans ((h.below hV).step hst his)
    have kc : ∀ (b : Nat) (u : Value), w.cell? ⟨b, 0, none⟩ = some u → ¬ foot x.sb g b → w2.cell? ⟨b, 0, none⟩ = some u := fun b u hu hf => by
      have hlt : b < w.heap.size := World.block_lt_of_cell? w ⟨b, 0, none⟩ hu
      have e1 : w2.heap[b]? = w.heap[b]? := (hst.kept.block b (Nat.lt_of_lt_of_le hlt hV.size) hf).trans (hV.block b hlt)
      exact (World.cell?_of_block (a := ⟨b, 0, none⟩) e1).trans hu
    exact ⟨kc bl _ hb hbl, (st.bo.log.cells).1, kc bn _ hn hbn, kc bm _ hmm hbm, st⟩
  obtain ⟨c1, c2, c3, c4⟩ := cells.out w (Below.refl _ _)
  have hbW : Hid (Below w.heap.size w w ∧ Below w.heap.size w w.drew) := ⟨Below.refl _ _, (Below.refl _ _).drew⟩
  clear h hlen ht hb hn hmm hbl hbn hbm
  unfold str ptr at happ
  unfold ptr
  generalize nameOf x.p (pSnap m) = sn at *
  go_enter Tryz.func71, Tryz.ntmps71
  go_wp2_with fail
  go_region_held (fun w' => w'.cell? ⟨bl, 0, none⟩ = some (.pointer (some ⟨lb, 0, none⟩)) ∧ w'.cell? ⟨lb, 0, none⟩ = some (.pointer (some ⟨x.sb, 0, none⟩)) ∧ w'.cell? ⟨bn, 0, none⟩ = some (.string ⟨nm.toArray⟩) ∧ w'.cell? ⟨bm, 0, none⟩ = some (.int .i64 (m : Int))) (go_keep) (first | (go_at_call 37; refine (hfile.out _ (by first | exact hbW.out.1 | exact hbW.out.2)).mono ?_; rintro e w2 ⟨rfl, hb2⟩; replace hb2 := hid (show Below w.heap.size w w2 from hbW.out.2.trans (hb2.mono (Nat.le_refl _))); obtain ⟨d1, d2, d3, d4⟩ := cells.out w2 hb2.out) | (go_at_call 72; refine (happ.out _ hb2.out).mono ?_; rintro e w3 ⟨rfl, g', hst, his⟩; obtain ⟨e1, e2, e3, e4, st3⟩ := fin.out w2 w3 g' hb2.out hst his; clear hst his))
  all_goals
    go_wp2
    go_ret
    exact ⟨rfl, g', st3.out⟩
set_option maxRecDepth 100000 in
set_option maxHeartbeats 2000000 in
theorem mo1 (w : World) (bl bm : Nat) {B lb : Nat} {g : Gs} {t : St} {x : Lg} (h : Bo B w lb g t x) (hp : x.p.length ≤ 16) (m : Nat) (hm : m < 100) (ha : t.acts < 4611686018427387904) (hb : w.cell? ⟨bl, 0, none⟩ = some (ptr lb)) (hmm : w.cell? ⟨bm, 0, none⟩ = some (.int .i64 (m : Int))) {r : Int} {t' : St} (ht : t.append (nameOf x.p (pLog m)) [] = (r, t'))
    (hbl : ¬ foot x.sb g bl) (hbm : ¬ foot x.sb g bm) :
    Calls Tryz.prog 73 #[ptr bl, ptr bm] w fun e w' => e = .returned (.int .i64 r) ∧ ∃ g', BStep B lb w w' g g' x x t' := by
  have cells : Hid (∀ V, Below w.heap.size w V → V.cell? ⟨bl, 0, none⟩ = some (.pointer (some ⟨lb, 0, none⟩)) ∧ V.cell? ⟨lb, 0, none⟩ = some (.pointer (some ⟨x.sb, 0, none⟩)) ∧ V.cell? ⟨bm, 0, none⟩ = some (.int .i64 (m : Int))) := fun V hV =>
    ⟨(hV.cell (p := ⟨bl, 0, none⟩) (World.block_lt_of_cell? w _ hb)).trans hb, ((h.below hV).log.cells).1, (hV.cell (p := ⟨bm, 0, none⟩) (World.block_lt_of_cell? w _ hmm)).trans hmm⟩
  have hfile : Hid (∀ V, Below w.heap.size w V → Calls Tryz.prog 37 #[.pointer (some ⟨lb, 0, none⟩), .string ⟨#[108, 111, 103, 46]⟩, .int .i64 (m : Int)] V fun e w' => e = .returned (.string ⟨(nameOf x.p (pLog m)).toArray⟩) ∧ Below V.heap.size V w') := fun V hV => file_is V (h.below hV).log (pLog m) (ok_log hm) log_ne_new hp
  have hlen := nameOf_len (ok_log hm) hp
  have happ := hid (fun V (hV : Below w.heap.size w V) => append_t V (h.below hV).is (nameOf x.p (pLog m)) (by omega) (.slice none 0 0) [] (isB_nil V) ha ht)
  have fin : Hid (∀ V w2 g', Below w.heap.size w V → Step B x.sb V w2 g g' → Is B w2 x.sb g' t' → w2.cell? ⟨bl, 0, none⟩ = some (.pointer (some ⟨lb, 0, none⟩)) ∧ w2.cell? ⟨lb, 0, none⟩ = some (.pointer (some ⟨x.sb, 0, none⟩)) ∧ w2.cell? ⟨bm, 0, none⟩ = some (.int .i64 (m : Int)) ∧ Hid (BStep B lb w w2 g g' x x t')) := by
    intro V w2 g' hV hst his
    have st := (h.same hV).trans ((h.below hV).step hst his)
    have kc : ∀ (b : Nat) (u : Value), w.cell? ⟨b, 0, none⟩ = some u → ¬ foot x.sb g b → w2.cell? ⟨b, 0, none⟩ = some u := fun b u hu hf => by
      have hlt : b < w.heap.size := World.block_lt_of_cell? w ⟨b, 0, none⟩ hu
      have e1 : w2.heap[b]? = w.heap[b]? := (hst.kept.block b (Nat.lt_of_lt_of_le hlt hV.size) hf).trans (hV.block b hlt)
      exact (World.cell?_of_block (a := ⟨b, 0, none⟩) e1).trans hu
    exact ⟨kc bl _ hb hbl, (st.bo.log.cells).1, kc bm _ hmm hbm, st⟩
  obtain ⟨c1, c2, c4⟩ := cells.out w (Below.refl _ _)
  have hbW : Hid (Below w.heap.size w w ∧ Below w.heap.size w w.drew) := ⟨Below.refl _ _, (Below.refl _ _).drew⟩
  clear h hlen ht hb hmm hbl hbm
  unfold str ptr at happ
  unfold ptr
  generalize nameOf x.p (pLog m) = sn at *
  go_enter Tryz.func73, Tryz.ntmps73
  go_wp2_with fail
  go_region_held (fun w' => w'.cell? ⟨bl, 0, none⟩ = some (.pointer (some ⟨lb, 0, none⟩)) ∧ w'.cell? ⟨lb, 0, none⟩ = some (.pointer (some ⟨x.sb, 0, none⟩)) ∧ w'.cell? ⟨bm, 0, none⟩ = some (.int .i64 (m : Int))) (go_keep) (first | (go_at_call 37; refine (hfile.out _ (by first | exact hbW.out.1 | exact hbW.out.2)).mono ?_; rintro e w2 ⟨rfl, hb2⟩; replace hb2 := hid (show Below w.heap.size w w2 from hbW.out.2.trans (hb2.mono (Nat.le_refl _))); obtain ⟨d1, d2, d4⟩ := cells.out w2 hb2.out) | (go_at_call 36; refine (happ.out _ hb2.out).mono ?_; rintro e w3 ⟨rfl, g', hst, his⟩; obtain ⟨e1, e2, e4, st3⟩ := fin.out w2 w3 g' hb2.out hst his; clear hst his))
  all_goals
    go_wp2
    go_ret
    exact ⟨rfl, g', st3.out⟩
set_option maxRecDepth 100000 in
set_option maxHeartbeats 2000000 in
theorem mo2 (w : World) (bl : Nat) {B lb : Nat} {g : Gs} {t : St} {x : Lg} (h : Bo B w lb g t x) (hp : x.p.length ≤ 16) (hn : x.n < 100) (ha : t.acts < 4611686018427387904) (hb : w.cell? ⟨bl, 0, none⟩ = some (ptr lb)) {r : Int} {t' : St} (ht : t.remove (nameOf x.p (pLog x.n)) = (r, t'))
    (hbl : ¬ foot x.sb g bl) :
    Calls Tryz.prog 74 #[ptr bl] w fun e w' => e = .returned (.int .i64 r) ∧ ∃ g', BStep B lb w w' g g' x x t' := by
  have cells : Hid (∀ V, Below w.heap.size w V → V.cell? ⟨bl, 0, none⟩ = some (.pointer (some ⟨lb, 0, none⟩)) ∧ V.cell? ⟨lb, 0, none⟩ = some (.pointer (some ⟨x.sb, 0, none⟩)) ∧ V.cell? ⟨lb, 2, none⟩ = some (.int .i64 (x.n : Int))) := fun V hV =>
    ⟨(hV.cell (p := ⟨bl, 0, none⟩) (World.block_lt_of_cell? w _ hb)).trans hb, ((h.below hV).log.cells).1, ((h.below hV).log.cells).2.2.1⟩
  have hfile : Hid (∀ V, Below w.heap.size w V → Calls Tryz.prog 37 #[.pointer (some ⟨lb, 0, none⟩), .string ⟨#[108, 111, 103, 46]⟩, .int .i64 (x.n : Int)] V fun e w' => e = .returned (.string ⟨(nameOf x.p (pLog x.n)).toArray⟩) ∧ Below V.heap.size V w') := fun V hV => file_is V (h.below hV).log (pLog x.n) (ok_log hn) log_ne_new hp
  have hlen := nameOf_len (ok_log hn) hp
  have happ := hid (fun V (hV : Below w.heap.size w V) => remove_t V (h.below hV).is (nameOf x.p (pLog x.n)) (by unfold maxLen; omega) ha ht)
  have fin : Hid (∀ V w2 g', Below w.heap.size w V → Step B x.sb V w2 g g' → Is B w2 x.sb g' t' → w2.cell? ⟨bl, 0, none⟩ = some (.pointer (some ⟨lb, 0, none⟩)) ∧ w2.cell? ⟨lb, 0, none⟩ = some (.pointer (some ⟨x.sb, 0, none⟩)) ∧ w2.cell? ⟨lb, 2, none⟩ = some (.int .i64 (x.n : Int)) ∧ Hid (BStep B lb w w2 g g' x x t')) := by
    intro V w2 g' hV hst his
    have st := (h.same hV).trans ((h.below hV).step hst his)
    have hlt : bl < w.heap.size := World.block_lt_of_cell? w ⟨bl, 0, none⟩ hb
    have e1 : w2.heap[bl]? = w.heap[bl]? := (hst.kept.block bl (Nat.lt_of_lt_of_le hlt hV.size) hbl).trans (hV.block bl hlt)
    exact ⟨(World.cell?_of_block (a := ⟨bl, 0, none⟩) e1).trans hb, (st.bo.log.cells).1, (st.bo.log.cells).2.2.1, st⟩
  obtain ⟨c1, c2, c4⟩ := cells.out w (Below.refl _ _)
  have hbW : Hid (Below w.heap.size w w ∧ Below w.heap.size w w.drew) := ⟨Below.refl _ _, (Below.refl _ _).drew⟩
  clear h hlen ht hb hbl
  unfold str ptr at happ
  unfold ptr
  generalize nameOf x.p (pLog x.n) = sn at *
  go_enter Tryz.func74, Tryz.ntmps74
  go_wp2_with fail
  go_region_held (fun w' => w'.cell? ⟨bl, 0, none⟩ = some (.pointer (some ⟨lb, 0, none⟩)) ∧ w'.cell? ⟨lb, 0, none⟩ = some (.pointer (some ⟨x.sb, 0, none⟩)) ∧ w'.cell? ⟨lb, 2, none⟩ = some (.int .i64 (x.n : Int))) (go_keep) (first | (go_at_call 37; refine (hfile.out _ (by first | exact hbW.out.1 | exact hbW.out.2)).mono ?_; rintro e w2 ⟨rfl, hb2⟩; replace hb2 := hid (show Below w.heap.size w w2 from hbW.out.2.trans (hb2.mono (Nat.le_refl _))); obtain ⟨d1, d2, d4⟩ := cells.out w2 hb2.out) | (go_at_call 52; refine (happ.out _ hb2.out).mono ?_; rintro e w3 ⟨rfl, g', hst, his⟩; obtain ⟨e1, e2, e4, st3⟩ := fin.out w2 w3 g' hb2.out hst his; clear hst his))
  all_goals
    go_wp2
    go_ret
    exact ⟨rfl, g', st3.out⟩
set_option maxRecDepth 100000 in
set_option maxHeartbeats 2000000 in
theorem mo3 (w : World) (bl : Nat) {B lb : Nat} {g : Gs} {t : St} {x : Lg} (h : Bo B w lb g t x) (hp : x.p.length ≤ 16) (hn0 : 1 ≤ x.n) (hn : x.n < 100) (ha : t.acts < 4611686018427387904) (hb : w.cell? ⟨bl, 0, none⟩ = some (ptr lb)) {r : Int} {t' : St} (ht : t.remove (nameOf x.p (pSnap x.n)) = (r, t'))
    (hbl : ¬ foot x.sb g bl) :
    Calls Tryz.prog 75 #[ptr bl] w fun e w' => e = .returned (.int .i64 r) ∧ ∃ g', BStep B lb w w' g g' x x t' := by
  have cells : Hid (∀ V, Below w.heap.size w V → V.cell? ⟨bl, 0, none⟩ = some (.pointer (some ⟨lb, 0, none⟩)) ∧ V.cell? ⟨lb, 0, none⟩ = some (.pointer (some ⟨x.sb, 0, none⟩)) ∧ V.cell? ⟨lb, 2, none⟩ = some (.int .i64 (x.n : Int))) := fun V hV =>
    ⟨(hV.cell (p := ⟨bl, 0, none⟩) (World.block_lt_of_cell? w _ hb)).trans hb, ((h.below hV).log.cells).1, ((h.below hV).log.cells).2.2.1⟩
  have hfile : Hid (∀ V, Below w.heap.size w V → Calls Tryz.prog 37 #[.pointer (some ⟨lb, 0, none⟩), .string ⟨#[115, 110, 97, 112, 46]⟩, .int .i64 (x.n : Int)] V fun e w' => e = .returned (.string ⟨(nameOf x.p (pSnap x.n)).toArray⟩) ∧ Below V.heap.size V w') := fun V hV => file_is V (h.below hV).log (pSnap x.n) (ok_snap hn0 hn) snap_ne_new hp
  have hlen := nameOf_len (ok_snap hn0 hn) hp
  have happ := hid (fun V (hV : Below w.heap.size w V) => remove_t V (h.below hV).is (nameOf x.p (pSnap x.n)) (by unfold maxLen; omega) ha ht)
  have fin : Hid (∀ V w2 g', Below w.heap.size w V → Step B x.sb V w2 g g' → Is B w2 x.sb g' t' → w2.cell? ⟨bl, 0, none⟩ = some (.pointer (some ⟨lb, 0, none⟩)) ∧ w2.cell? ⟨lb, 0, none⟩ = some (.pointer (some ⟨x.sb, 0, none⟩)) ∧ w2.cell? ⟨lb, 2, none⟩ = some (.int .i64 (x.n : Int)) ∧ Hid (BStep B lb w w2 g g' x x t')) := by
    intro V w2 g' hV hst his
    have st := (h.same hV).trans ((h.below hV).step hst his)
    have hlt : bl < w.heap.size := World.block_lt_of_cell? w ⟨bl, 0, none⟩ hb
    have e1 : w2.heap[bl]? = w.heap[bl]? := (hst.kept.block bl (Nat.lt_of_lt_of_le hlt hV.size) hbl).trans (hV.block bl hlt)
    exact ⟨(World.cell?_of_block (a := ⟨bl, 0, none⟩) e1).trans hb, (st.bo.log.cells).1, (st.bo.log.cells).2.2.1, st⟩
  obtain ⟨c1, c2, c4⟩ := cells.out w (Below.refl _ _)
  have hbW : Hid (Below w.heap.size w w ∧ Below w.heap.size w w.drew) := ⟨Below.refl _ _, (Below.refl _ _).drew⟩
  have hz : ((x.n : Int) == 0) = false := by simp; omega
  clear h hlen ht hb hbl
  unfold str ptr at happ
  unfold ptr
  generalize nameOf x.p (pSnap x.n) = sn at *
  go_enter Tryz.func75, Tryz.ntmps75
  go_wp2_with fail
  go_region_held (fun w' => w'.cell? ⟨bl, 0, none⟩ = some (.pointer (some ⟨lb, 0, none⟩)) ∧ w'.cell? ⟨lb, 0, none⟩ = some (.pointer (some ⟨x.sb, 0, none⟩)) ∧ w'.cell? ⟨lb, 2, none⟩ = some (.int .i64 (x.n : Int))) (go_keep) (first | (go_at_call 37; refine (hfile.out _ (by first | exact hbW.out.1 | exact hbW.out.2)).mono ?_; rintro e w2 ⟨rfl, hb2⟩; replace hb2 := hid (show Below w.heap.size w w2 from hbW.out.2.trans (hb2.mono (Nat.le_refl _))); obtain ⟨d1, d2, d4⟩ := cells.out w2 hb2.out) | (go_at_call 52; refine (happ.out _ hb2.out).mono ?_; rintro e w3 ⟨rfl, g', hst, his⟩; obtain ⟨e1, e2, e4, st3⟩ := fin.out w2 w3 g' hb2.out hst his; clear hst his))
  all_goals
    go_wp2
    go_ret
    exact ⟨rfl, g', st3.out⟩
set_option maxHeartbeats 400000 in
theorem mo3_0 (w : World) (bl lb : Nat) {x : Lg} (h : LogAt w lb x) (hn : x.n = 0) (hb : w.cell? ⟨bl, 0, none⟩ = some (ptr lb)) : Calls Tryz.prog 75 #[ptr bl] w fun e w' => e = .returned (.int .i64 0) ∧ w' = w := by
  have c2 := (h.cells).2.2.1
  rw [hn] at c2
  unfold ptr at *
  clear h hn
  go_enter Tryz.func75, Tryz.ntmps75
  go_wp2
  go_ret
  exact ⟨rfl, rfl⟩
end Go.Proofs.YtihgikekkgoddaaGreatDoor
