/- Contracts of the document's store: Truncate, Append. -/
import Derived.Test.YtinnegkkfaaceaaRefE
namespace Go.Proofs.Ytinnegkkfaaceaa
open Go.RowKit Go.Maps Go.MapKept Go.Shelf

/-- append([]byte{}, x...). -/
theorem copy_run {W : World} {v2 : Value} {bs : List UInt8} (h2 : IsB W v2 bs) (hl : bs.length ≤ 1000000000) :
    ∃ a' c' w', (∀ ty, (Builtin.append_ #[30, 30] ty #[.slice (some ⟨W.heap.size, 0, none⟩) 0 0, v2]).run Try.prog (W.alloc (.cells #[] 5)) = .ok (.slice a' bs.length c') w') ∧ w'.ownsRow W.heap.size 5 1 (.slice a' bs.length c') bs.length (bs.map bv) ∧ Below W.heap.size W w' := by
  have hr : (W.alloc (.cells #[] 5)).ownsRow W.heap.size 5 1 (.slice (some ⟨W.heap.size, 0, none⟩) 0 0) ([] : List UInt8).length (([] : List UInt8).map bv) := World.ownsRow_made W #[] 0 (Nat.le_refl _) (by unfold maxLen; omega) rfl
  obtain ⟨a', c', w', hrun, hown, hgr, _⟩ := app_run hr (h2.below (alloc_below W _)) (by simp; omega) (by simp)
  simp only [List.length_nil, Nat.zero_add, List.nil_append] at hrun hown
  refine ⟨a', c', w', hrun, hown, hgr.os, hgr.tape, hgr.output, by have := hgr.size; simp at this; omega, fun k hk => ?_⟩
  exact (hgr.block k (by simp; omega) (fun e => by injection e with e; have : k = W.heap.size := e; omega)).trans ((alloc_below W _).block k hk)
theorem low2 {B : Nat} {w w1 w2 : World} (L : Below w.heap.size w w1) (hb : Below w1.heap.size w1 w2) (_ : B ≤ w.heap.size) : Below w.heap.size w w2 := L.trans (hb.mono L.size)
section
variable {B rb : Nat} {R : Rs}
set_option maxHeartbeats 1000000 in
theorem rtruncate (w : World) (h : RefAt B w rb R) (ok : Rok R) (n : List UInt8) (k : Int) : Calls Try.prog 32 #[ptr rb, str n, .int .i64 k] w fun e w' => e = .returned (.int .i64 (R.abs.truncate n k).1) ∧ ∃ R', R'.abs = (R.abs.truncate n k).2 ∧ RStep B rb w w' R R' := by
  have hl : R.ps.length ≤ 1000 := by have := ok.few; omega
  by_cases h0 : R.abs.why n = 0
  · obtain ⟨f, a, c, hf, hfn, hm, hd, hg⟩ := rgot w h ok n h0
    have hrow := h.els _ hm
    have hbig := (ok.file _ hm).2.1
    change f.b.length ≤ 1048576 at hbig
    have bx : Hid (∀ w1, Below w.heap.size w w1 → RStep B rb w (w1.alloc (.cells #[str f.name, .slice a f.b.length c, .int .i64 (f.s : Int)] 35)) R R) := fun w1 hb => RStep.below h (low hb hb.size (alloc_below w1 _))
    by_cases hcond : k < 0 ∨ (f.b.length : Int) < k
    · have e0 : R.abs.truncate n k = (2, R.abs) := (with_yes hd hf _).trans (if_pos hcond)
      rw [e0]
      replace hg := hid hg
      clear e0 hf hd h0 h ok hl hrow hm hfn
      unfold ptr str at *
      by_cases hc1 : k < 0
      · clear hcond
        go_enter Try.func32, Try.ntmps32
        go_wp2_with fail
        refine hg.out.mono ?_
        rintro e w1 ⟨rfl, hb1⟩
        replace bx := hid (bx.out w1 hb1)
        clear hb1 hg
        go_wp2
        go_ret
        exact ⟨rfl, R, rfl, bx.out⟩
      · have hc2 : (f.b.length : Int) < k := by omega
        clear hcond
        go_enter Try.func32, Try.ntmps32
        go_wp2_with fail
        refine hg.out.mono ?_
        rintro e w1 ⟨rfl, hb1⟩
        replace bx := hid (bx.out w1 hb1)
        clear hb1 hg
        go_wp2
        go_ret
        exact ⟨rfl, R, rfl, bx.out⟩
    · obtain ⟨m, rfl⟩ : ∃ m : Nat, k = (m : Int) := ⟨k.toNat, by omega⟩
      have hmm : m ≤ f.b.length := by omega
      have e0 : R.abs.truncate n (m : Int) = (0, St.done { R.abs with l := putE { f with b := f.b.take m, s := min f.s m } R.abs.l }) := (with_yes hd hf _).trans (if_neg hcond)
      rw [e0]
      have hc1 : ¬ (m : Int) < 0 := by omega
      have hc2 : ¬ (f.b.length : Int) < (m : Int) := by omega
      have hcap : f.b.length ≤ c ∧ c ≤ 9223372036854775807 := by
        rcases row_form hrow with ⟨e1, e2⟩ | ⟨gg, cc, e1, e2, e3⟩
        · injection e1 with e1 e1' e1''
          have : f.b.length = 0 := e1'
          omega
        · injection e1 with e1 e1' e1''
          change f.b.length ≤ cc at e2
          unfold maxLen at e3
          omega
      obtain ⟨hcap1, hcap2⟩ := hcap
      have etk : (f.b.take m).length = m := by simp; omega
      have hnr : ∀ w1, Below w.heap.size w w1 → ¬ rfoot rb R w1.heap.size := fun w1 hb e => by have := h.lt e; have := hb.size; omega
      have CP : Hid (∀ w1, Below w.heap.size w w1 → ∃ a' c' w3, (∀ ty, (Builtin.append_ #[30, 30] ty #[.slice (some ⟨w1.heap.size + 1, 0, none⟩) 0 0, .slice a m c]).run Try.prog ((w1.alloc (.cells #[str f.name, .slice a f.b.length c, .int .i64 (f.s : Int)] 35)).alloc (.cells #[] 5)) = .ok (.slice a' m c') w3) ∧
          w3.heap[w1.heap.size]? = some (.cells #[str f.name, .slice a f.b.length c, .int .i64 (f.s : Int)] 35) ∧
          ∀ W5, W5 = w3.setCell ⟨w1.heap.size, 1, none⟩ (.slice a' m c') ∨ W5 = (w3.setCell ⟨w1.heap.size, 1, none⟩ (.slice a' m c')).setCell ⟨w1.heap.size, 2, none⟩ (.int .i64 (m : Int)) →
            Calls Try.prog 59 #[ptr rb, .agg #[str f.name, .slice a' m c', .int .i64 ((min f.s m : Nat) : Int)]] W5 fun e w6 => e = .returned (.tuple #[]) ∧ Calls Try.prog 60 #[ptr rb] w6 fun e w7 => e = .returned (.int .i64 0) ∧ ∃ R2, R2.abs = St.done { R.abs with l := putE { f with b := f.b.take m, s := min f.s m } R.abs.l } ∧ RStep B rb w w7 R R2) := by
        intro w1 hb
        have S0 := bx.out w1 hb
        have hB := IsB.take (isB_row (S0.old _ _ _ hrow)) m hmm
        obtain ⟨a', c', w3, hrun, hown, hb3⟩ := copy_run hB (by rw [etk]; omega)
        have hs1 : (w1.alloc (.cells #[str f.name, .slice a f.b.length c, .int .i64 (f.s : Int)] 35)).heap.size = w1.heap.size + 1 := by simp
        rw [etk, hs1] at hrun
        have hblk : w3.heap[w1.heap.size]? = some (.cells #[str f.name, .slice a f.b.length c, .int .i64 (f.s : Int)] 35) := (hb3.block _ (by simp)).trans (MapKept.heap_alloc w1 _).1
        refine ⟨a', c', w3, hrun, hblk, ?_⟩
        have S1 := S0.trans (RStep.below S0.ref hb3)
        have S2 := S1.box hb.size hblk (hnr w1 hb) 1 (.slice a' m c')
        have S3 := S2.box hb.size (heap_set_at hblk _) (hnr w1 hb) 2 (.int .i64 (m : Int))
        have hbase : ∀ k, (Value.slice a' (f.b.take m).length c').ownBlock = some k → w.heap.size ≤ k := fun k hk => by have h1 := (hown.lt k hk).1; rw [hs1] at h1; have := hb.size; omega
        have row5 : ∀ W5, RStep B rb w W5 R R → (∀ k, k ≠ w1.heap.size → W5.heap[k]? = w3.heap[k]?) → W5.ownsRow B 5 1 (.slice a' (f.b.take m).length c') (f.b.take m).length ((f.b.take m).map bv) := by
          intro W5 _ hsame
          refine ownsRow_base (ownsRow_block hown fun k hk => hsame k fun e => ?_) fun k hk => Nat.le_trans h.size (hbase k hk)
          have h1 := (hown.lt k hk).1
          rw [hs1] at h1
          omega
        have key : ∀ W5, RStep B rb w W5 R R → (∀ k, k ≠ w1.heap.size → W5.heap[k]? = w3.heap[k]?) → Calls Try.prog 59 #[ptr rb, .agg #[str f.name, .slice a' m c', .int .i64 ((min f.s m : Nat) : Int)]] W5 fun e w6 => e = .returned (.tuple #[]) ∧ Calls Try.prog 60 #[ptr rb] w6 fun e w7 => e = .returned (.int .i64 0) ∧ ∃ R2, R2.abs = St.done { R.abs with l := putE { f with b := f.b.take m, s := min f.s m } R.abs.l } ∧ RStep B rb w w7 R R2 := by
          intro W5 S hsame
          have := rput_act S { f with b := f.b.take m, s := min f.s m } a' c' (row5 W5 S hsame) (fun k hk => .inr (hbase k hk)) hl (by have := ok.acts; omega) ok.left
          simp only [etk] at this
          exact this
        rintro W5 (rfl | rfl)
        · exact key _ S2 fun k hk => heap_set _ _ _ _ _ hk
        · exact key _ S3 fun k hk => (heap_set _ _ _ _ _ hk).trans (heap_set _ _ _ _ _ hk)
      replace hg := hid hg
      clear e0 hf hd h0 hcond hfn hrow hm h ok hl hnr etk bx
      unfold ptr str at *
      go_enter Try.func32, Try.ntmps32
      go_wp2_with fail
      refine hg.out.mono ?_
      rintro e w1 ⟨rfl, hb1⟩
      obtain ⟨a', c', w3, hrun, hblk, pt⟩ := CP.out w1 hb1
      have q0 : w3.cell? ⟨w1.heap.size, 0, none⟩ = some (.string ⟨f.name.toArray⟩) := by rw [cell_of hblk]; rfl
      have q1 : w3.cell? ⟨w1.heap.size, 1, none⟩ = some (.slice a f.b.length c) := by rw [cell_of hblk]; rfl
      have q2 : w3.cell? ⟨w1.heap.size, 2, none⟩ = some (.int .i64 (f.s : Int)) := by rw [cell_of hblk]; rfl
      have q3 := frozen_of hblk 1
      have hset := heap_set_at (o := 1) hblk (.slice a' m c')
      have p0 : (w3.setCell ⟨w1.heap.size, 1, none⟩ (.slice a' m c')).cell? ⟨w1.heap.size, 0, none⟩ = some (.string ⟨f.name.toArray⟩) := by rw [cell_of hset]; rfl
      have p1 : (w3.setCell ⟨w1.heap.size, 1, none⟩ (.slice a' m c')).cell? ⟨w1.heap.size, 1, none⟩ = some (.slice a' m c') := by rw [cell_of hset]; rfl
      have p2 : (w3.setCell ⟨w1.heap.size, 1, none⟩ (.slice a' m c')).cell? ⟨w1.heap.size, 2, none⟩ = some (.int .i64 (f.s : Int)) := by rw [cell_of hset]; rfl
      have p3 := frozen_of hset 2
      have hset2 := heap_set_at (o := 2) hset (.int .i64 (m : Int))
      have r0 : ((w3.setCell ⟨w1.heap.size, 1, none⟩ (.slice a' m c')).setCell ⟨w1.heap.size, 2, none⟩ (.int .i64 (m : Int))).cell? ⟨w1.heap.size, 0, none⟩ = some (.string ⟨f.name.toArray⟩) := by rw [cell_of hset2]; rfl
      have r1 : ((w3.setCell ⟨w1.heap.size, 1, none⟩ (.slice a' m c')).setCell ⟨w1.heap.size, 2, none⟩ (.int .i64 (m : Int))).cell? ⟨w1.heap.size, 1, none⟩ = some (.slice a' m c') := by rw [cell_of hset2]; rfl
      have r2 : ((w3.setCell ⟨w1.heap.size, 1, none⟩ (.slice a' m c')).setCell ⟨w1.heap.size, 2, none⟩ (.int .i64 (m : Int))).cell? ⟨w1.heap.size, 2, none⟩ = some (.int .i64 (m : Int)) := by rw [cell_of hset2]; rfl
      by_cases hsm : m < f.s
      · have hsm' : (m : Int) < (f.s : Int) := by omega
        have emin : min f.s m = m := by omega
        have pt2 := pt _ (.inr rfl)
        rw [emin] at pt2
        replace pt2 := hid pt2
        replace emin := hid emin
        clear pt CP hb1 hg hblk hset hset2
        go_wp2_with (first | (at_builtin; refine wpList_append_run _ rfl _ _ 30 rfl _ _ _ _ rfl rfl hrun ?_) | (go_at_call 59; refine pt2.out.mono ?_; rintro e w6 ⟨rfl, ha⟩; replace ha := hid ha) | (go_at_call 60; refine ha.out.mono ?_; rintro e w7 ⟨rfl, fin⟩; replace fin := hid fin))
        go_ret
        rw [emin.out]
        exact ⟨rfl, fin.out⟩
      · have hsm' : ¬ (m : Int) < (f.s : Int) := by omega
        have emin : min f.s m = f.s := by omega
        have pt2 := pt _ (.inl rfl)
        rw [emin] at pt2
        replace pt2 := hid pt2
        replace emin := hid emin
        clear pt CP hb1 hg hblk hset hset2
        go_wp2_with (first | (at_builtin; refine wpList_append_run _ rfl _ _ 30 rfl _ _ _ _ rfl rfl hrun ?_) | (go_at_call 59; refine pt2.out.mono ?_; rintro e w6 ⟨rfl, ha⟩; replace ha := hid ha) | (go_at_call 60; refine ha.out.mono ?_; rintro e w7 ⟨rfl, fin⟩; replace fin := hid fin))
        go_ret
        rw [emin.out]
        exact ⟨rfl, fin.out⟩
  · have e0 : R.abs.truncate n k = (R.abs.why n, R.abs) := with_no h0 _
    rw [e0]
    have h0' : (R.abs.why n == 0) = false := by simpa using h0
    have hg := hid (rget_no w h n hl h0)
    have fin := hid (fun w' hb => RStep.below (w' := w') h hb)
    replace e0 := hid e0
    clear h0 h
    unfold ptr str at *
    generalize R.abs.why n = r at *
    go_enter Try.func32, Try.ntmps32
    go_wp2_with fail
    refine hg.out.mono ?_
    rintro e w1 ⟨rfl, hb1⟩
    replace fin := hid (fin.out _ (low hb1 hb1.size (alloc_below w1 (.cells #[str [], .slice none 0 0, .int .i64 0] 35))))
    unfold str at fin
    clear hb1 hg
    go_wp2
    go_ret
    exact ⟨rfl, R, rfl, fin.out⟩
end
end Go.Proofs.Ytinnegkkfaaceaa
