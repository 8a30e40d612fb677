/- Contracts of the document's store: Append. -/
import Derived.Test.YtinnegkkfaaceaaRefF
namespace Go.Proofs.Ytinnegkkfaaceaa
open Go.RowKit Go.Maps Go.MapKept Go.Shelf

/-- append(append([]byte{}, x...), y...). -/
theorem copy2_run {W : World} {v0 v2 : Value} {b0 bs : List UInt8} (h0 : IsB W v0 b0) (h2 : IsB W v2 bs) (hl0 : b0.length ≤ 1000000000) (hl : bs.length ≤ 1000000000) :
    ∃ a1 c1 w3 a2 c2 w4, (∀ ty, (Builtin.append_ #[30, 30] ty #[.slice (some ⟨W.heap.size, 0, none⟩) 0 0, v0]).run Try.prog (W.alloc (.cells #[] 5)) = .ok (.slice a1 b0.length c1) w3) ∧ (∀ ty, (Builtin.append_ #[30, 30] ty #[.slice a1 b0.length c1, v2]).run Try.prog w3 = .ok (.slice a2 (b0.length + bs.length) c2) w4) ∧
      w4.ownsRow W.heap.size 5 1 (.slice a2 (b0.length + bs.length) c2) (b0 ++ bs).length ((b0 ++ bs).map bv) ∧ Below W.heap.size W w4 := by
  obtain ⟨a1, c1, w3, r1, o1, hb⟩ := copy_run h0 hl0
  obtain ⟨a2, c2, w4, r2, o2, g2, _⟩ := app_run o1 (h2.below hb) (by omega) hb.size
  refine ⟨a1, c1, w3, a2, c2, w4, r1, r2, o2, hb.trans ⟨g2.os, g2.tape, g2.output, g2.size, fun k hk => g2.block k (by have := hb.size; omega) fun e => ?_⟩⟩
  have := (o1.lt k e.symm).1
  omega
section
variable {B rb : Nat} {R : Rs}
theorem rapp_do (w : World) (h : RefAt B w rb R) (ok : Rok R) (f : Ent) (a : Option Addr) (c : Nat) (h0 : IsB w (.slice a f.b.length c) f.b) {v2 : Value} {bs : List UInt8} (h2 : IsB w v2 bs) (hl0 : f.b.length ≤ 1000000000) (hl : bs.length ≤ 1000000000) :
    ∃ a1 c1 w3 a2 c2 w4, (∀ ty, (Builtin.append_ #[30, 30] ty #[.slice (some ⟨w.heap.size + 1, 0, none⟩) 0 0, .slice a f.b.length c]).run Try.prog ((w.alloc (.cells #[str f.name, .slice a f.b.length c, .int .i64 (f.s : Int)] 35)).alloc (.cells #[] 5)) = .ok (.slice a1 f.b.length c1) w3) ∧ (∀ ty, (Builtin.append_ #[30, 30] ty #[.slice a1 f.b.length c1, v2]).run Try.prog w3 = .ok (.slice a2 (f.b.length + bs.length) c2) w4) ∧
      w4.heap[w.heap.size]? = some (.cells #[str f.name, .slice a f.b.length c, .int .i64 (f.s : Int)] 35) ∧
      Calls Try.prog 59 #[ptr rb, .agg #[str f.name, .slice a2 (f.b.length + bs.length) c2, .int .i64 (f.s : Int)]] (w4.setCell ⟨w.heap.size, 1, none⟩ (.slice a2 (f.b.length + bs.length) c2)) fun e w6 => e = .returned (.tuple #[]) ∧ Calls Try.prog 60 #[ptr rb] w6 fun e w7 => e = .returned (.int .i64 0) ∧ ∃ R2, R2.abs = St.done { R.abs with l := putE { f with b := f.b ++ bs } R.abs.l } ∧ RStep B rb w w7 R R2 := by
  have hb := alloc_below w (.cells #[str f.name, .slice a f.b.length c, .int .i64 (f.s : Int)] 35)
  have hs1 : (w.alloc (.cells #[str f.name, .slice a f.b.length c, .int .i64 (f.s : Int)] 35)).heap.size = w.heap.size + 1 := by simp
  obtain ⟨a1, c1, w3, a2, c2, w4, r1, r2, o2, hb4⟩ := copy2_run (h0.below hb) (h2.below hb) hl0 hl
  rw [hs1] at r1
  have hblk : w4.heap[w.heap.size]? = some (.cells #[str f.name, .slice a f.b.length c, .int .i64 (f.s : Int)] 35) := (hb4.block _ (by simp)).trans (MapKept.heap_alloc w _).1
  refine ⟨a1, c1, w3, a2, c2, w4, r1, r2, hblk, ?_⟩
  have S0 := RStep.below h hb
  have S1 := S0.trans (RStep.below S0.ref hb4)
  have S2 := S1.box (Nat.le_refl _) hblk (fun e => by have := h.lt e; omega) 1 (.slice a2 (f.b.length + bs.length) c2)
  have el : (f.b ++ bs).length = f.b.length + bs.length := by simp
  have hrow : (w4.setCell ⟨w.heap.size, 1, none⟩ (.slice a2 (f.b.length + bs.length) c2)).ownsRow B 5 1 (.slice a2 (f.b ++ bs).length c2) (f.b ++ bs).length ((f.b ++ bs).map bv) := by
    rw [el] at o2 ⊢
    refine ownsRow_base (ownsRow_block o2 fun k hk => heap_set _ _ _ _ _ fun e => ?_) fun k hk => ?_
    · have h1 := (o2.lt k hk).1
      rw [hs1] at h1
      omega
    · have h1 := (o2.lt k hk).1
      have := h.size
      rw [hs1] at h1
      omega
  have := rput_act S2 { f with b := f.b ++ bs } a2 c2 hrow (fun k hk => by
    right
    have h1 := (o2.lt k (by rw [← el]; exact hk)).1
    rw [hs1] at h1
    omega) (by have := ok.few; omega) (by have := ok.acts; omega) ok.left
  simp only [el] at this
  exact this
set_option maxHeartbeats 2000000 in
theorem rappend (w : World) (h : RefAt B w rb R) (ok : Rok R) (n : List UInt8) (hn : n.length ≤ 4294967296) (va : Option Addr) (vc : Nat) (bs : List UInt8) (h2 : IsB w (.slice va bs.length vc) bs) (hl : bs.length ≤ 1000000000) : Calls Try.prog 37 #[ptr rb, str n, .slice va bs.length vc] w fun e w' => e = .returned (.int .i64 (R.abs.append n bs).1) ∧ ∃ R', R'.abs = (R.abs.append n bs).2 ∧ RStep B rb w w' R R' := by
  have hps : R.ps.length ≤ 1000 := by have := ok.few; omega
  have hsz : (⟨n.toArray⟩ : ByteArray).size = n.length := by show n.toArray.size = _; simp
  have hdd := rdead w h
  obtain ⟨la, lc, hlv⟩ := h.slice
  by_cases hd : R.left = 0
  · have e0 : R.abs.append n bs = (30, R.abs) := by unfold St.append; rw [if_pos (show R.abs.left = 0 from hd)]
    rw [e0]
    rw [show (R.left == 0) = true by simp [hd]] at hdd
    have fin := hid (RStep.below h (Below.refl _ w))
    replace hdd := hid hdd
    clear h hd h2 ok
    unfold ptr str at *
    go_enter Try.func37, Try.ntmps37
    go_wp2_with (go_at_call 30; refine hdd.out.mono ?_; rintro e w' ⟨rfl, hw⟩; have hw2 := hw.symm; subst hw2; clear hw)
    go_ret
    exact ⟨rfl, R, rfl, fin.out⟩
  rw [show (R.left == 0) = false by simp [hd]] at hdd
  replace hdd := hid hdd
  have hd' : ¬ R.abs.left = 0 := hd
  by_cases hmay : mayB n = false
  · have e0 : R.abs.append n bs = (2, R.abs) := by unfold St.append; rw [if_neg hd', if_pos hmay]
    rw [e0]
    have hcond : n.length < 1 ∨ 32 < n.length := by
      unfold mayB at hmay
      simp at hmay
      omega
    have fin := hid (RStep.below h (Below.refl _ w))
    clear h hd hd' h2 ok hmay e0
    unfold ptr str at *
    rcases hcond with hc | hc
    · have hc' : (n.length : Int) < 1 := by omega
      go_enter Try.func37, Try.ntmps37
      go_wp2_with (go_at_call 30; refine hdd.out.mono ?_; rintro e w' ⟨rfl, hw⟩; have hw2 := hw.symm; subst hw2; clear hw)
      go_ret
      exact ⟨rfl, R, rfl, fin.out⟩
    · have hc1 : ¬ (n.length : Int) < 1 := by omega
      have hc' : (32 : Int) < (n.length : Int) := by omega
      go_enter Try.func37, Try.ntmps37
      go_wp2_with (go_at_call 30; refine hdd.out.mono ?_; rintro e w' ⟨rfl, hw⟩; have hw2 := hw.symm; subst hw2; clear hw)
      go_ret
      exact ⟨rfl, R, rfl, fin.out⟩
  have hcond : 1 ≤ n.length ∧ n.length ≤ 32 := by
    unfold mayB at hmay
    simp at hmay
    omega
  have hc1 : ¬ (n.length : Int) < 1 := by omega
  have hc2 : ¬ (32 : Int) < (n.length : Int) := by omega
  have hb := alloc_below w (.cells #[str n, .slice none 0 0, .int .i64 0] 35)
  have h1 := h.below hb
  have c0 : (w.alloc (.cells #[str n, .slice none 0 0, .int .i64 0] 35)).cell? ⟨rb, 0, none⟩ = some (.slice la R.ps.length lc) := by rw [cell_of h1.cell, hlv]; rfl
  cases hk : lookE n R.abs.l with
  | none =>
    have hf := hid (rfind_miss _ h1 n hps (look_not hk))
    by_cases hlong : 1048576 < bs.length
    · have e0 : R.abs.append n bs = (3, R.abs) := by unfold St.append; rw [if_neg hd', if_neg hmay, hk]; simp only; rw [if_pos hlong]
      rw [e0]
      have hlong' : (1048576 : Int) < (bs.length : Int) := by omega
      have fin := hid (RStep.below h hb)
      clear h h1 hd hd' h2 ok hmay hcond hk e0 hlv hb
      unfold ptr str at *
      go_enter Try.func37, Try.ntmps37
      go_wp2_with (first | (go_at_call 30; refine hdd.out.mono ?_; rintro e w' ⟨rfl, hw⟩; have hw2 := hw.symm; subst hw2; clear hw) | (go_at_call 39; refine hf.out.mono ?_; rintro e w' ⟨rfl, rfl⟩))
      go_ret
      exact ⟨rfl, R, rfl, fin.out⟩
    · have hlong' : ¬ (1048576 : Int) < (bs.length : Int) := by omega
      by_cases hfull : 64 ≤ R.ps.length
      · have e0 : R.abs.append n bs = (4, R.abs) := by unfold St.append; rw [if_neg hd', if_neg hmay, hk]; simp only; rw [if_neg hlong, if_pos (by simpa [Rs.abs] using hfull)]
        rw [e0]
        have hfull' : (64 : Int) ≤ (R.ps.length : Int) := by omega
        have fin := hid (RStep.below h hb)
        clear h h1 hd hd' h2 ok hmay hcond hk e0 hlv hb
        unfold ptr str at *
        go_enter Try.func37, Try.ntmps37
        go_wp2_with (first | (go_at_call 30; refine hdd.out.mono ?_; rintro e w' ⟨rfl, hw⟩; have hw2 := hw.symm; subst hw2; clear hw) | (go_at_call 39; refine hf.out.mono ?_; rintro e w' ⟨rfl, rfl⟩))
        go_ret
        exact ⟨rfl, R, rfl, fin.out⟩
      · have e0 : R.abs.append n bs = (0, St.done { R.abs with l := putE ⟨n, bs, 0⟩ R.abs.l }) := by unfold St.append; rw [if_neg hd', if_neg hmay, hk]; simp only; rw [if_neg hlong, if_neg (by simpa [Rs.abs] using hfull)]
        rw [e0]
        have hfull' : ¬ (64 : Int) ≤ (R.ps.length : Int) := by omega
        obtain ⟨a1, c1', w3, a2, c2, w4, r1, r2, hblk, pt⟩ := rapp_do w h ok ⟨n, [], 0⟩ none 0 ⟨by simp, none, 0, rfl, .inl rfl⟩ h2 (by simp) hl
        simp only [List.length_nil, Nat.zero_add, List.nil_append, Int.cast_ofNat_Int] at r1 r2 hblk pt
        have q0 : w4.cell? ⟨w.heap.size, 0, none⟩ = some (str n) := by rw [cell_of hblk]; rfl
        have q1 : w4.cell? ⟨w.heap.size, 1, none⟩ = some (.slice none 0 0) := by rw [cell_of hblk]; rfl
        have q2 : w4.cell? ⟨w.heap.size, 2, none⟩ = some (.int .i64 0) := by rw [cell_of hblk]; rfl
        have q3 := frozen_of hblk 1
        have hset := heap_set_at (o := 1) hblk (.slice a2 bs.length c2)
        have p0 : (w4.setCell ⟨w.heap.size, 1, none⟩ (.slice a2 bs.length c2)).cell? ⟨w.heap.size, 0, none⟩ = some (str n) := by rw [cell_of hset]; rfl
        have p1 : (w4.setCell ⟨w.heap.size, 1, none⟩ (.slice a2 bs.length c2)).cell? ⟨w.heap.size, 1, none⟩ = some (.slice a2 bs.length c2) := by rw [cell_of hset]; rfl
        have p2 : (w4.setCell ⟨w.heap.size, 1, none⟩ (.slice a2 bs.length c2)).cell? ⟨w.heap.size, 2, none⟩ = some (.int .i64 0) := by rw [cell_of hset]; rfl
        replace pt := hid pt
        clear h h1 hd hd' h2 ok hmay hcond hk e0 hlv hb hblk hset
        unfold ptr str at *
        go_enter Try.func37, Try.ntmps37
        go_wp2_with (first | (go_at_call 30; refine hdd.out.mono ?_; rintro e w' ⟨rfl, hw⟩; have hw2 := hw.symm; subst hw2; clear hw) | (go_at_call 39; refine hf.out.mono ?_; rintro e w' ⟨rfl, rfl⟩) | (at_builtin; refine wpList_append_run _ rfl _ _ 30 rfl _ _ _ _ rfl rfl r1 ?_; clear r1) | (at_builtin; refine wpList_append_run _ rfl _ _ 30 rfl _ _ _ _ rfl rfl r2 ?_) | (go_at_call 59; refine pt.out.mono ?_; rintro e w6 ⟨rfl, ha⟩; replace ha := hid ha) | (go_at_call 60; refine ha.out.mono ?_; rintro e w7 ⟨rfl, fin⟩; replace fin := hid fin))
        go_ret
        exact ⟨rfl, fin.out⟩
  | some f =>
    obtain ⟨i, x, hx, hxf, hxn, hfirst⟩ := look_idx hk
    subst hxf
    have hm := List.mem_of_getElem? hx
    have hf := hid (rfind_hit _ h1 n hps hx hxn hfirst)
    have hi := (List.getElem?_eq_some_iff.1 hx).1
    have hi' : (i : Int) < (R.ps.length : Int) := by omega
    have hi0 : (0 : Int) ≤ (i : Int) := by omega
    have hi1 : ¬ (i : Int) < 0 := by omega
    obtain ⟨lb, lc', e, k0, k1, k2, _, _⟩ := h1.at hx
    rw [hlv] at e
    injection e with e1 e2 e3
    subst e1 e3
    obtain ⟨xa, xc, hx2⟩ := row_slice (h.els x hm)
    rw [hx2] at k1
    have hbig := (ok.file x hm).2.1
    have hrowx := h.els x hm
    rw [hx2] at hrowx
    by_cases hlong : 1048576 < x.1.b.length + bs.length
    · have e0 : R.abs.append n bs = (3, R.abs) := by unfold St.append; rw [if_neg hd', if_neg hmay, hk]; simp only; rw [if_pos hlong]
      rw [e0]
      have hlong' : (1048576 : Int) < (x.1.b.length : Int) + (bs.length : Int) := by omega
      have fin := hid (RStep.below h (alloc_below w (.cells #[str x.1.name, .slice xa x.1.b.length xc, .int .i64 (x.1.s : Int)] 35)))
      clear h h1 hd hd' h2 ok hmay hcond hk e0 hlv hb hx hxn hfirst hx2 hm e2 hrowx
      unfold ptr str at *
      go_enter Try.func37, Try.ntmps37
      go_wp2_with (first | (go_at_call 30; refine hdd.out.mono ?_; rintro e w' ⟨rfl, hw⟩; have hw2 := hw.symm; subst hw2; clear hw) | (go_at_call 39; refine hf.out.mono ?_; rintro e w' ⟨rfl, rfl⟩))
      go_ret
      exact ⟨rfl, R, rfl, fin.out⟩
    · have e0 : R.abs.append n bs = (0, St.done { R.abs with l := putE { x.1 with b := x.1.b ++ bs } R.abs.l }) := by unfold St.append; rw [if_neg hd', if_neg hmay, hk]; simp only; rw [if_neg hlong]
      rw [e0]
      have hlong' : ¬ (1048576 : Int) < (x.1.b.length : Int) + (bs.length : Int) := by omega
      obtain ⟨a1, c1', w3, a2, c2, w4, r1, r2, hblk, pt⟩ := rapp_do w h ok x.1 xa xc (isB_row hrowx) h2 (by omega) hl
      have q0 : w4.cell? ⟨w.heap.size, 0, none⟩ = some (str x.1.name) := by rw [cell_of hblk]; rfl
      have q1 : w4.cell? ⟨w.heap.size, 1, none⟩ = some (.slice xa x.1.b.length xc) := by rw [cell_of hblk]; rfl
      have q2 : w4.cell? ⟨w.heap.size, 2, none⟩ = some (.int .i64 (x.1.s : Int)) := by rw [cell_of hblk]; rfl
      have q3 := frozen_of hblk 1
      have hset := heap_set_at (o := 1) hblk (.slice a2 (x.1.b.length + bs.length) c2)
      have p0 : (w4.setCell ⟨w.heap.size, 1, none⟩ (.slice a2 (x.1.b.length + bs.length) c2)).cell? ⟨w.heap.size, 0, none⟩ = some (str x.1.name) := by rw [cell_of hset]; rfl
      have p1 : (w4.setCell ⟨w.heap.size, 1, none⟩ (.slice a2 (x.1.b.length + bs.length) c2)).cell? ⟨w.heap.size, 1, none⟩ = some (.slice a2 (x.1.b.length + bs.length) c2) := by rw [cell_of hset]; rfl
      have p2 : (w4.setCell ⟨w.heap.size, 1, none⟩ (.slice a2 (x.1.b.length + bs.length) c2)).cell? ⟨w.heap.size, 2, none⟩ = some (.int .i64 (x.1.s : Int)) := by rw [cell_of hset]; rfl
      replace pt := hid pt
      clear h h1 hd hd' h2 ok hmay hcond hk e0 hlv hb hx hxn hfirst hx2 hm e2 hrowx hblk hset
      unfold ptr str at *
      go_enter Try.func37, Try.ntmps37
      go_wp2_with (first | (go_at_call 30; refine hdd.out.mono ?_; rintro e w' ⟨rfl, hw⟩; have hw2 := hw.symm; subst hw2; clear hw) | (go_at_call 39; refine hf.out.mono ?_; rintro e w' ⟨rfl, rfl⟩) | (at_builtin; refine wpList_append_run _ rfl _ _ 30 rfl _ _ _ _ rfl rfl r1 ?_; clear r1) | (at_builtin; refine wpList_append_run _ rfl _ _ 30 rfl _ _ _ _ rfl rfl r2 ?_) | (go_at_call 59; refine pt.out.mono ?_; rintro e w6 ⟨rfl, ha⟩; replace ha := hid ha) | (go_at_call 60; refine ha.out.mono ?_; rintro e w7 ⟨rfl, fin⟩; replace fin := hid fin))
      go_ret
      exact ⟨rfl, fin.out⟩
end
end Go.Proofs.Ytinnegkkfaaceaa
