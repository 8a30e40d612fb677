/- Contracts of the document's store: Remove, Sync, Rename. -/
import Derived.Test.YtinnegkkfaaceaaRefD
namespace Go.Proofs.Ytinnegkkfaaceaa
open Go.RowKit Go.Maps Go.MapKept Go.Shelf

structure Rok (R : Rs) : Prop where
  few : R.ps.length ≤ 64
  acts : R.acts < 4611686018427387903
  left : -9223372036854775808 ≤ R.left ∧ R.left ≤ 9223372036854775807
  file : ∀ p ∈ R.ps, p.1.s ≤ p.1.b.length ∧ p.1.b.length ≤ 1048576 ∧ p.1.name.length ≤ 32
theorem with_no {t : St} {n : List UInt8} (h : t.why n ≠ 0) (k : Ent → Int × St) : t.with n k = (t.why n, t) := by
  unfold St.why at h ⊢
  unfold St.with
  split
  · rfl
  · rename_i h0
    rw [if_neg h0] at h
    split
    · rename_i hf
      rw [hf]
    · rename_i f hf
      rw [hf] at h
      exact absurd rfl h
theorem why_zero {t : St} {n : List UInt8} (h : t.why n = 0) : t.left ≠ 0 ∧ ∃ f, lookE n t.l = some f := by
  unfold St.why at h
  split at h
  · cases h
  · rename_i h0
    refine ⟨h0, ?_⟩
    split at h
    · cases h
    · rename_i f hf
      exact ⟨f, hf⟩
theorem with_yes {t : St} {n : List UInt8} {f : Ent} (h0 : t.left ≠ 0) (hf : lookE n t.l = some f) (k : Ent → Int × St) : t.with n k = k f := by
  unfold St.with
  rw [if_neg h0, hf]
section
variable {B rb : Nat} {R R1 : Rs}
/-- a file is put, an act is done. -/
theorem rput_act {w W : World} (S : RStep B rb w W R R1) (f : Ent) (va : Option Addr) (vc : Nat) (hv : W.ownsRow B 5 1 (.slice va f.b.length vc) f.b.length (f.b.map bv)) (hX : ∀ k, (Value.slice va f.b.length vc).ownBlock = some k → rfoot rb R k ∨ w.heap.size ≤ k) (hl : R1.ps.length ≤ 1000) (ha : R1.acts < 4611686018427387904) (hlf : -9223372036854775808 ≤ R1.left ∧ R1.left ≤ 9223372036854775807) :
    Calls Try.prog 59 #[ptr rb, .agg #[str f.name, .slice va f.b.length vc, .int .i64 (f.s : Int)]] W fun e w1 => e = .returned (.tuple #[]) ∧ Calls Try.prog 60 #[ptr rb] w1 fun e w2 => e = .returned (.int .i64 0) ∧ ∃ R2, R2.abs = St.done { R1.abs with l := putE f R1.abs.l } ∧ RStep B rb w w2 R R2 := by
  refine (rput W S.ref f va vc hv hl).mono ?_
  rintro e w1 ⟨rfl, lv, hs⟩
  refine ⟨rfl, ?_⟩
  have S2 := S.transX hs hX
  refine (ract w1 S2.ref ha hlf).mono ?_
  rintro e w2 ⟨rfl, hs2⟩
  refine ⟨rfl, _, ?_, S2.trans hs2⟩
  show (⟨(insP (f, .slice va f.b.length vc) (delP f.name R1.ps)).map Prod.fst, R1.acts + 1, _⟩ : St) = ⟨putE f (R1.ps.map Prod.fst), R1.acts + 1, _⟩
  rw [map_insP, map_delP]
  rfl
set_option maxHeartbeats 1000000 in
theorem rremove (w : World) (h : RefAt B w rb R) (ok : Rok R) (n : List UInt8) : Calls Try.prog 34 #[ptr rb, str n] w fun e w' => e = .returned (.int .i64 (R.abs.remove n).1) ∧ ∃ R', R'.abs = (R.abs.remove n).2 ∧ RStep B rb w w' R R' := by
  have hl : R.ps.length ≤ 1000 := by have := ok.few; omega
  have hr0 := hid (rrefuse w h n hl)
  by_cases h0 : R.abs.why n = 0
  · obtain ⟨hd, f, hf⟩ := why_zero h0
    have e0 : R.abs.remove n = (0, St.done { R.abs with l := delE n R.abs.l }) := with_yes hd hf _
    rw [e0]
    have hr := hr0.out
    rw [h0] at hr
    clear hr0
    replace hr := hid hr
    have hc := hid (rcut w h n hl)
    have ha : Hid (∀ w1 lv, RStep B rb w w1 R { R with lv := lv, ps := delP n R.ps } → Calls Try.prog 60 #[ptr rb] w1 fun e w2 => e = .returned (.int .i64 0) ∧ ∃ R', R'.abs = St.done { R.abs with l := delE n R.abs.l } ∧ RStep B rb w w2 R R') := by
      intro w1 lv hs
      refine (ract w1 hs.ref (by have := ok.acts; show R.acts < _; omega) ok.left).mono ?_
      rintro e w2 ⟨rfl, hs2⟩
      refine ⟨rfl, _, ?_, hs.trans hs2⟩
      show (⟨(delP n R.ps).map Prod.fst, R.acts + 1, _⟩ : St) = ⟨delE n (R.ps.map Prod.fst), R.acts + 1, _⟩
      rw [map_delP]
      rfl
    clear e0 hf hd h0 h ok hl
    unfold ptr str at *
    go_enter Try.func34, Try.ntmps34
    go_wp2_with (first | (go_at_call 38; refine hr.out.mono ?_; rintro e w' ⟨rfl, hw⟩; have hw2 := hw.symm; subst hw2; clear hw) | (go_at_call 61; refine hc.out.mono ?_; rintro e w1 ⟨rfl, lv, hs⟩; replace ha := hid (ha.out w1 lv hs); clear hs) | (go_at_call 60; refine ha.out.mono ?_; rintro e w2 ⟨rfl, fin⟩; replace fin := hid fin))
    go_ret
    exact ⟨rfl, fin.out⟩
  · have hr := hr0
    have e0 : R.abs.remove n = (R.abs.why n, R.abs) := with_no h0 _
    rw [e0]
    have h0' : (R.abs.why n == 0) = false := by simpa using h0
    have fin := hid (RStep.below h (Below.refl _ _))
    replace e0 := hid e0
    clear h0 h
    unfold ptr str at *
    generalize R.abs.why n = r at *
    go_enter Try.func34, Try.ntmps34
    go_wp2_with (go_at_call 38; refine hr.out.mono ?_; rintro e w' ⟨rfl, hw⟩; have hw2 := hw.symm; subst hw2; clear hw)
    go_ret
    exact ⟨rfl, R, rfl, fin.out⟩
/-- what Get leads to. -/
theorem rgot (w : World) (h : RefAt B w rb R) (ok : Rok R) (n : List UInt8) (h0 : R.abs.why n = 0) : ∃ (f : Ent) (a : Option Addr) (c : Nat), lookE n R.abs.l = some f ∧ f.name = n ∧ (f, Value.slice a f.b.length c) ∈ R.ps ∧ R.abs.left ≠ 0 ∧ Calls Try.prog 14 #[ptr rb, str n] w fun e w' => e = .returned (.tuple #[.agg #[str f.name, .slice a f.b.length c, .int .i64 (f.s : Int)], .int .i64 0]) ∧ Below w.heap.size w w' := by
  obtain ⟨hd, f, hf⟩ := why_zero h0
  obtain ⟨i, x, h1, h2, h3, h4⟩ := look_idx hf
  have hm := List.mem_of_getElem? h1
  obtain ⟨a, c, hx⟩ := row_slice (h.els x hm)
  subst h2
  have ex : (x.1, Value.slice a x.1.b.length c) = x := by rw [← hx]
  refine ⟨x.1, a, c, hf, h3, by rw [ex]; exact hm, hd, ?_⟩
  have := rget_yes w h n (by have := ok.few; omega) hd h1 h3 h4 hf
  rw [hx] at this
  exact this
set_option maxHeartbeats 1000000 in
theorem rsync (w : World) (h : RefAt B w rb R) (ok : Rok R) (n : List UInt8) : Calls Try.prog 31 #[ptr rb, str n] w fun e w' => e = .returned (.int .i64 (R.abs.sync n).1) ∧ ∃ R', R'.abs = (R.abs.sync n).2 ∧ RStep B rb w w' R R' := by
  have hl : R.ps.length ≤ 1000 := by have := ok.few; omega
  by_cases h0 : R.abs.why n = 0
  · obtain ⟨f, a, c, hf, hfn, hm, hd, hg⟩ := rgot w h ok n h0
    have e0 : R.abs.sync n = (0, St.done { R.abs with l := putE { f with s := f.b.length } R.abs.l }) := with_yes hd hf _
    rw [e0]
    have hrow := h.els _ hm
    have hbig := (ok.file _ hm).2.1
    change f.b.length ≤ 1048576 at hbig
    have pt : Hid (∀ w1, Below w.heap.size w w1 → Calls Try.prog 59 #[ptr rb, .agg #[str f.name, .slice a f.b.length c, .int .i64 (f.b.length : Int)]] (w1.alloc (.cells #[str f.name, .slice a f.b.length c, .int .i64 (f.b.length : Int)] 35)) fun e w1 => e = .returned (.tuple #[]) ∧ Calls Try.prog 60 #[ptr rb] w1 fun e w2 => e = .returned (.int .i64 0) ∧ ∃ R2, R2.abs = St.done { R.abs with l := putE { f with s := f.b.length } R.abs.l } ∧ RStep B rb w w2 R R2) := by
      intro w1 hb
      have hb2 := low hb hb.size (alloc_below w1 (.cells #[str f.name, .slice a f.b.length c, .int .i64 (f.b.length : Int)] 35))
      have S := RStep.below h hb2
      exact rput_act S { f with s := f.b.length } a c (S.old _ _ _ hrow) (fun k hk => .inl (.inr (.inr ⟨_, hm, hk⟩))) hl (by have := ok.acts; omega) ok.left
    replace hg := hid hg
    clear e0 hf hd h0 h ok hl hrow hm hfn
    unfold ptr str at *
    go_enter Try.func31, Try.ntmps31
    go_wp2_with fail
    refine hg.out.mono ?_
    rintro e w1 ⟨rfl, hb1⟩
    replace pt := hid (pt.out w1 hb1)
    clear hb1 hg
    go_wp2_with (first | (go_at_call 59; refine pt.out.mono ?_; rintro e w2 ⟨rfl, ha⟩; replace ha := hid ha) | (go_at_call 60; refine ha.out.mono ?_; rintro e w2 ⟨rfl, fin⟩; replace fin := hid fin))
    go_ret
    exact ⟨rfl, fin.out⟩
  · have e0 : R.abs.sync n = (R.abs.why n, R.abs) := with_no h0 _
    rw [e0]
    have h0' : (R.abs.why n == 0) = false := by simpa using h0
    have hg := hid (rget_no w h n hl h0)
    have fin := hid (fun w' hb => RStep.below (w' := w') h hb)
    replace e0 := hid e0
    clear h0 h
    unfold ptr str at *
    generalize R.abs.why n = r at *
    go_enter Try.func31, Try.ntmps31
    go_wp2_with fail
    refine hg.out.mono ?_
    rintro e w1 ⟨rfl, hb1⟩
    replace fin := hid (fin.out _ (low hb1 hb1.size (alloc_below w1 (.cells #[str [], .slice none 0 0, .int .i64 0] 35))))
    unfold str at fin
    clear hb1 hg
    go_wp2
    go_ret
    exact ⟨rfl, R, rfl, fin.out⟩
theorem RStep.box {w W : World} (S : RStep B rb w W R R1) {q : Nat} (hq : w.heap.size ≤ q) {cs : Array Value} (hb : W.heap[q]? = some (.cells cs 35)) (hn : ¬ rfoot rb R1 q) (j : Nat) (u : Value) : RStep B rb w (W.setCell ⟨q, j, none⟩ u) R R1 := by
  refine ⟨S.ref.keep (by rw [size_set]; exact Nat.le_refl _) fun k hk => heap_set _ _ _ _ _ fun e => hn (e ▸ hk), ⟨S.kept.os, S.kept.tape, S.kept.output, by rw [size_set]; exact S.kept.size, fun k hk hne => (heap_set _ _ _ _ _ (by omega)).trans (S.kept.block k hk hne)⟩, S.fresh, fun v n xs hv => ?_⟩
  have h1 := S.old v n xs hv
  refine ownsRow_block h1 fun k hk => heap_set _ _ _ _ _ fun e => ?_
  obtain ⟨c, h2⟩ := row_block1 h1 hk
  rw [e, hb] at h2
  simp at h2
set_option maxHeartbeats 1000000 in
theorem rrename (w : World) (h : RefAt B w rb R) (ok : Rok R) (o n : List UInt8) (hn : n.length ≤ 4294967296) : Calls Try.prog 33 #[ptr rb, str o, str n] w fun e w' => e = .returned (.int .i64 (R.abs.rename o n).1) ∧ ∃ R', R'.abs = (R.abs.rename o n).2 ∧ RStep B rb w w' R R' := by
  have hl : R.ps.length ≤ 1000 := by have := ok.few; omega
  have hsz : (⟨n.toArray⟩ : ByteArray).size = n.length := by show n.toArray.size = _; simp
  by_cases h0 : R.abs.why o = 0
  · obtain ⟨f, a, c, hf, hfn, hm, hd, hg⟩ := rgot w h ok o h0
    have hrow := h.els _ hm
    have bx : Hid (∀ w1, Below w.heap.size w w1 → RStep B rb w (w1.alloc (.cells #[str f.name, .slice a f.b.length c, .int .i64 (f.s : Int)] 35)) R R) := fun w1 hb => RStep.below h (low hb hb.size (alloc_below w1 _))
    by_cases hmay : mayB n = false
    · have e0 : R.abs.rename o n = (2, R.abs) := (with_yes hd hf _).trans (if_pos hmay)
      rw [e0]
      have hcond : n.length < 1 ∨ 32 < n.length := by
        unfold mayB at hmay
        simp at hmay
        omega
      replace hg := hid hg
      clear e0 hf hd h0 h ok hl hrow hm hfn hmay
      unfold ptr str at *
      rcases hcond with hc | hc
      · have hc' : (n.length : Int) < 1 := by omega
        go_enter Try.func33, Try.ntmps33
        go_wp2_with fail
        refine hg.out.mono ?_
        rintro e w1 ⟨rfl, hb1⟩
        replace bx := hid (bx.out w1 hb1)
        clear hb1 hg
        go_wp2
        go_ret
        exact ⟨rfl, R, rfl, bx.out⟩
      · have hc1 : ¬ (n.length : Int) < 1 := by omega
        have hc' : (32 : Int) < (n.length : Int) := by omega
        go_enter Try.func33, Try.ntmps33
        go_wp2_with fail
        refine hg.out.mono ?_
        rintro e w1 ⟨rfl, hb1⟩
        replace bx := hid (bx.out w1 hb1)
        clear hb1 hg
        go_wp2
        go_ret
        exact ⟨rfl, R, rfl, bx.out⟩
    · have e0 : R.abs.rename o n = (0, St.done { R.abs with l := putE { f with name := n } (delE o R.abs.l) }) := (with_yes hd hf _).trans (if_neg hmay)
      rw [e0]
      have hcond : 1 ≤ n.length ∧ n.length ≤ 32 := by
        unfold mayB at hmay
        simp at hmay
        omega
      have hc1 : ¬ (n.length : Int) < 1 := by omega
      have hc2 : ¬ (32 : Int) < (n.length : Int) := by omega
      have CT : Hid (∀ w1, Below w.heap.size w w1 → Calls Try.prog 61 #[ptr rb, str o] (w1.alloc (.cells #[str f.name, .slice a f.b.length c, .int .i64 (f.s : Int)] 35)) fun e w2 => e = .returned (.tuple #[]) ∧
          (w2.heap[w1.heap.size]? = some (.cells #[str f.name, .slice a f.b.length c, .int .i64 (f.s : Int)] 35)) ∧
          Calls Try.prog 59 #[ptr rb, .agg #[str n, .slice a f.b.length c, .int .i64 (f.s : Int)]] (w2.setCell ⟨w1.heap.size, 0, none⟩ (str n)) fun e w3 => e = .returned (.tuple #[]) ∧ Calls Try.prog 60 #[ptr rb] w3 fun e w4 => e = .returned (.int .i64 0) ∧ ∃ R2, R2.abs = St.done { R.abs with l := putE { f with name := n } (delE o R.abs.l) } ∧ RStep B rb w w4 R R2) := by
        intro w1 hb
        have S0 := bx.out w1 hb
        refine (rcut _ S0.ref o hl).mono ?_
        rintro e w2 ⟨rfl, lv, hs⟩
        have hnf : ¬ rfoot rb R w1.heap.size := fun e => by have := h.lt e; have := hb.size; omega
        have hblk : w2.heap[w1.heap.size]? = some (.cells #[str f.name, .slice a f.b.length c, .int .i64 (f.s : Int)] 35) := (hs.kept.block _ (by simp) hnf).trans (MapKept.heap_alloc w1 _).1
        refine ⟨rfl, hblk, ?_⟩
        have S1 := S0.trans hs
        have S2 := S1.box (q := w1.heap.size) hb.size hblk (fun e => by
          rcases hs.fresh _ e with e | e
          · exact hnf e
          · simp at e; omega) 0 (str n)
        have hd' : (delP o R.ps).length ≤ 1000 := Nat.le_trans (List.length_filter_le _ _) hl
        have := rput_act S2 { f with name := n } a c (S2.old _ _ _ hrow) (fun k hk => .inl (.inr (.inr ⟨_, hm, hk⟩))) hd' (by have := ok.acts; show R.acts < _; omega) ok.left
        refine this.mono ?_
        rintro e w3 ⟨rfl, ha⟩
        refine ⟨rfl, ha.mono ?_⟩
        rintro e w4 ⟨rfl, R2, e1, e2⟩
        refine ⟨rfl, R2, ?_, e2⟩
        rw [e1]
        show St.done ⟨putE _ ((delP o R.ps).map Prod.fst), _, _⟩ = St.done ⟨putE _ (delE o (R.ps.map Prod.fst)), _, _⟩
        rw [map_delP]
        rfl
      replace hg := hid hg
      clear e0 hf hd h0 h ok hl hrow hm hfn hmay bx hcond
      unfold ptr str at *
      go_enter Try.func33, Try.ntmps33
      go_wp2_with fail
      refine hg.out.mono ?_
      rintro e w1 ⟨rfl, hb1⟩
      replace CT := hid (CT.out w1 hb1)
      clear hb1 hg
      go_wp2_with fail
      refine CT.out.mono ?_
      rintro e w2 ⟨rfl, hblk, pt⟩
      have q0 : w2.cell? ⟨w1.heap.size, 0, none⟩ = some (.string ⟨f.name.toArray⟩) := by rw [cell_of hblk]; rfl
      have q1 : w2.cell? ⟨w1.heap.size, 1, none⟩ = some (.slice a f.b.length c) := by rw [cell_of hblk]; rfl
      have q2 : w2.cell? ⟨w1.heap.size, 2, none⟩ = some (.int .i64 (f.s : Int)) := by rw [cell_of hblk]; rfl
      have q3 := frozen_of hblk 0
      have hset := heap_set_at (o := 0) hblk (.string ⟨n.toArray⟩)
      have p0 : (w2.setCell ⟨w1.heap.size, 0, none⟩ (.string ⟨n.toArray⟩)).cell? ⟨w1.heap.size, 0, none⟩ = some (.string ⟨n.toArray⟩) := by rw [cell_of hset]; rfl
      have p1 : (w2.setCell ⟨w1.heap.size, 0, none⟩ (.string ⟨n.toArray⟩)).cell? ⟨w1.heap.size, 1, none⟩ = some (.slice a f.b.length c) := by rw [cell_of hset]; rfl
      have p2 : (w2.setCell ⟨w1.heap.size, 0, none⟩ (.string ⟨n.toArray⟩)).cell? ⟨w1.heap.size, 2, none⟩ = some (.int .i64 (f.s : Int)) := by rw [cell_of hset]; rfl
      replace pt := hid pt
      clear CT hblk hset
      go_wp2_with (first | (go_at_call 59; refine pt.out.mono ?_; rintro e w3 ⟨rfl, ha⟩; replace ha := hid ha) | (go_at_call 60; refine ha.out.mono ?_; rintro e w4 ⟨rfl, fin⟩; replace fin := hid fin))
      go_ret
      exact ⟨rfl, fin.out⟩
  · have e0 : R.abs.rename o n = (R.abs.why o, R.abs) := with_no h0 _
    rw [e0]
    have h0' : (R.abs.why o == 0) = false := by simpa using h0
    have hg := hid (rget_no w h o hl h0)
    have fin := hid (fun w' hb => RStep.below (w' := w') h hb)
    replace e0 := hid e0
    clear h0 h
    unfold ptr str at *
    generalize R.abs.why o = r at *
    go_enter Try.func33, Try.ntmps33
    go_wp2_with fail
    refine hg.out.mono ?_
    rintro e w1 ⟨rfl, hb1⟩
    replace fin := hid (fin.out _ (low hb1 hb1.size (alloc_below w1 (.cells #[str [], .slice none 0 0, .int .i64 0] 35))))
    unfold str at fin
    clear hb1 hg
    go_wp2
    go_ret
    exact ⟨rfl, R, rfl, fin.out⟩
end
end Go.Proofs.Ytinnegkkfaaceaa
