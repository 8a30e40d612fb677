/- The walk of FilesEnds. -/
import Derived.Test.YtinnegkkfaaceaaEndsP
import Derived.Test.YtinnegkkfaaceaaRows
namespace Go.Proofs.Ytinnegkkfaaceaa
namespace filesEnds
open Go.RowKit Go.Maps Go.MapKept Go.Shelf

theorem start (A : Nat) : ({ (⟨[], 0, -1⟩ : St) with left := (A : Int) }) = E [] 0 0 A := by simp [E]
theorem byte_lit (i : Nat) (h : i < 61) : Value.int .u8 (i : Int) = bv (UInt8.ofNat i) := by
  unfold bv
  rw [UInt8.toNat_ofNat_of_lt' (by show i < 256; omega)]
set_option maxHeartbeats 4000000 in
theorem walk (a0 a1 a2 : Int) (w : World) (_ : (Lit.int .i64 a0).wf = true) (_ : (Lit.int .i64 a1).wf = true) (_ : (Lit.int .i64 a2).wf = true) :
    Calls Try.prog 8 #[.int .i64 a0, .int .i64 a1, .int .i64 a2] w fun e w' => e = .returned (.bool true) ∧ Below w.heap.size w w' := by
  obtain ⟨A, hA, eA⟩ := mod_small a0 41 (by decide) (by decide)
  obtain ⟨P, hP, eP⟩ := mod_small a1 61 (by decide) (by decide)
  obtain ⟨S, hS, eS⟩ := mod_small a2 61 (by decide) (by decide)
  replace eA := hid eA
  replace eP := hid eP
  replace eS := hid eS
  go_enter Try.func8, Try.ntmps8
  go_wp2_with fail
  refine (new_t _).mono ?_
  rintro e w1 ⟨rfl, h1, hb1, hs1⟩
  have L1 := hid hb1
  replace h1 := hid h1
  clear hb1 hs1
  generalize g0 w.heap.size = g1 at h1
  generalize w.heap.size + 1 = sb at h1 ⊢
  have eA' := eA.out
  have eP' := eP.out
  have eS' := eS.out
  simp only [Int.cast_ofNat_Int] at eA' eP' eS'
  rw [eA', eP', eS']
  clear eA' eP' eS' eA eP eS
  unfold ptr
  go_wp2_with fail
  refine (power_t _ h1.out (A : Int) (by omega)).mono ?_
  rintro e w2 ⟨rfl, g2, s2, h2⟩
  rw [start] at h2
  have L2 := hid (L1.out.trans (s2.low h1.out))
  replace h2 := hid h2
  clear h1 s2 L1
  go_wp2_with fail
  go_loopw [8, 9, 10, 11] (fun dv sv fv iv wr => ∃ (i done safe : Nat) (bs : List UInt8) (g : Gs), i ≤ P ∧ done ≤ A ∧ bs.length ≤ i ∧ safe ≤ bs.length ∧ dv = .int .i64 done ∧ sv = .int .i64 bs.length ∧ fv = .int .i64 safe ∧ iv = .int .i64 i ∧ Is w.heap.size wr sb g (E bs safe done A) ∧ Below w.heap.size w wr) (fun _ _ _ iv _ => P - (intOf iv).toNat)
  case atStart => exact ⟨0, 0, 0, [], g2, by omega, by omega, by simp, by simp, rfl, rfl, rfl, rfl, h2.out, L2.out⟩
  case round =>
    rename_i wr
    obtain ⟨i, done, safe, bs, g, hi, hd, hbl, hsf, rfl, rfl, rfl, rfl, hIs, hL⟩ := hrel
    replace hIs := hid hIs
    replace hL := hid hL
    clear h2 L2
    by_cases hlt : i < P
    · have hlt' : (i : Int) < (P : Int) := by omega
      have hi61 : i < 61 := by omega
      have hby := hid (byte_lit i hi61)
      have hIs' := hid (hIs.out.below (alloc_below wr (.cells ([UInt8.ofNat i].map bv).toArray 5)))
      have hL' := hid (low hL.out hIs.out.2.2 (alloc_below wr (.cells ([UInt8.ofNat i].map bv).toArray 5)))
      have hml : ([UInt8.ofNat i] : List UInt8).length ≤ maxLen := by simp [maxLen]
      by_cases hda : done < A
      · have hda' : (done : Int) < (A : Int) := by omega
        have hap := hid (append_t _ hIs'.out [97] (by decide) _ [UInt8.ofNat i] (isB_lit wr [UInt8.ofNat i] 1 hml) (by show done < _; omega) (app_yes bs safe done A (UInt8.ofNat i) hda (by omega) hsf))
        by_cases hS1 : i = S
        · subst hS1
          have hS2 : ((i : Int) == (i : Int)) = true := by simp
          by_cases hdb : done + 1 < A
          · go_wp2_with (go_at_call 18; rw [hby.out]; refine hap.out.mono ?_; rintro e w4 ⟨rfl, g4, s4, h4⟩; have L4 := hid (hL'.out.trans (s4.low hIs'.out)); replace h4 := hid h4; clear s4)
            have hsy := hid (sync_t _ h4.out [97] (by decide) (by show done + 1 < _; omega) (sync_yes (bs ++ [UInt8.ofNat i]) safe (done + 1) A hdb (by simp)))
            go_wp2_with (go_at_call 25; refine hsy.out.mono ?_; rintro e w5 ⟨rfl, g5, s5, h5⟩; have L5 := hid (L4.out.trans (s5.low h4.out)); replace h5 := hid h5; clear s5)
            exact ⟨⟨i + 1, done + 1 + 1, (bs ++ [UInt8.ofNat i]).length, bs ++ [UInt8.ofNat i], g5, by omega, by omega, by simp; omega, Nat.le_refl _, by go_num, by simp, by simp, by go_num, h5.out, L5.out⟩, by simp [intOf]; omega⟩
          · have hdc : ¬ (done : Int) + 1 < (A : Int) := by omega
            go_wp2_with (go_at_call 18; rw [hby.out]; refine hap.out.mono ?_; rintro e w4 ⟨rfl, g4, s4, h4⟩; have L4 := hid (hL'.out.trans (s4.low hIs'.out)); replace h4 := hid h4; clear s4)
            have hsy := hid (sync_t _ h4.out [97] (by decide) (by show done + 1 < _; omega) (sync_no (bs ++ [UInt8.ofNat i]) safe (done + 1) A (by omega)))
            go_wp2_with (go_at_call 25; refine hsy.out.mono ?_; rintro e w5 ⟨rfl, g5, s5, h5⟩; have L5 := hid (L4.out.trans (s5.low h4.out)); replace h5 := hid h5; clear s5)
            exact ⟨⟨i + 1, done + 1, safe, bs ++ [UInt8.ofNat i], g5, by omega, by omega, by simp; omega, by simp; omega, by go_num, by simp, rfl, by go_num, h5.out, L5.out⟩, by simp [intOf]; omega⟩
        · have hS2 : ((i : Int) == (S : Int)) = false := by simp; omega
          go_wp2_with (go_at_call 18; rw [hby.out]; refine hap.out.mono ?_; rintro e w4 ⟨rfl, g4, s4, h4⟩; have L4 := hid (hL'.out.trans (s4.low hIs'.out)); replace h4 := hid h4; clear s4)
          exact ⟨⟨i + 1, done + 1, safe, bs ++ [UInt8.ofNat i], g4, by omega, by omega, by simp; omega, by simp; omega, by go_num, by simp, rfl, by go_num, h4.out, L4.out⟩, by simp [intOf]; omega⟩
      · have hda' : ¬ (done : Int) < (A : Int) := by omega
        have hap := hid (append_t _ hIs'.out [97] (by decide) _ [UInt8.ofNat i] (isB_lit wr [UInt8.ofNat i] 1 hml) (by show done < _; omega) (app_no bs safe done A (UInt8.ofNat i) (by omega)))
        by_cases hS1 : i = S
        · subst hS1
          have hS2 : ((i : Int) == (i : Int)) = true := by simp
          go_wp2_with (go_at_call 18; rw [hby.out]; refine hap.out.mono ?_; rintro e w4 ⟨rfl, g4, s4, h4⟩; have L4 := hid (hL'.out.trans (s4.low hIs'.out)); replace h4 := hid h4; clear s4)
          have hsy := hid (sync_t _ h4.out [97] (by decide) (by show done < _; omega) (sync_no bs safe done A (by omega)))
          go_wp2_with (go_at_call 25; refine hsy.out.mono ?_; rintro e w5 ⟨rfl, g5, s5, h5⟩; have L5 := hid (L4.out.trans (s5.low h4.out)); replace h5 := hid h5; clear s5)
          exact ⟨⟨i + 1, done, safe, bs, g5, by omega, by omega, by omega, hsf, rfl, rfl, rfl, by go_num, h5.out, L5.out⟩, by simp [intOf]; omega⟩
        · have hS2 : ((i : Int) == (S : Int)) = false := by simp; omega
          go_wp2_with (go_at_call 18; rw [hby.out]; refine hap.out.mono ?_; rintro e w4 ⟨rfl, g4, s4, h4⟩; have L4 := hid (hL'.out.trans (s4.low hIs'.out)); replace h4 := hid h4; clear s4)
          exact ⟨⟨i + 1, done, safe, bs, g4, by omega, by omega, by omega, hsf, rfl, rfl, rfl, by go_num, h4.out, L4.out⟩, by simp [intOf]; omega⟩
    · have hge : ¬ (i : Int) < (P : Int) := by omega
      have hI0 : ∀ w', IsI w' (.slice none 0 0) [] := fun w' => ⟨by simp, by simp, none, 0, rfl, by simp, by simp, .inl rfl⟩
      -- what is told ahead of the crash, and behind it
      have hrd : ∀ (r1 : List UInt8) (x1 : Int), (E bs safe done A).read [97] = (r1, x1) → Hid (Calls Try.prog 15 #[.pointer (some ⟨sb, 0, none⟩), .string ⟨#[97]⟩] wr fun e w' => ∃ a c, e = .returned (.tuple #[.slice a r1.length c, .int .i64 x1]) ∧ Is w.heap.size w' sb g (E bs safe done A) ∧ Below w.heap.size w w') := by
        intro r1 x1 hr
        refine (read_t _ hIs.out [97] (by decide) hr).mono ?_
        rintro e w' ⟨a, c, rfl, _, hb⟩
        exact ⟨a, c, rfl, hIs.out.below hb, low hL.out hIs.out.2.2 hb⟩
      have hrd2 : ∀ (r2 : List UInt8) (x2 : Int), ((E bs safe done A).crash []).read [97] = (r2, x2) → Hid (∀ w' g', Is w.heap.size w' sb g' ((E bs safe done A).crash []) → Below w.heap.size w w' → Calls Try.prog 15 #[.pointer (some ⟨sb, 0, none⟩), .string ⟨#[97]⟩] w' fun e w2 => ∃ a c, e = .returned (.tuple #[.slice a r2.length c, .int .i64 x2]) ∧ Is w.heap.size w2 sb g' ((E bs safe done A).crash []) ∧ Below w.heap.size w w2) := by
        intro r2 x2 hr w' g' hI hB
        refine (read_t _ hI [97] (by decide) hr).mono ?_
        rintro e w2 ⟨a, c, rfl, _, hb⟩
        exact ⟨a, c, rfl, hI.below hb, low hB hI.2.2 hb⟩
      have hDead : Hid (∀ w' (dd : Bool), Is w.heap.size w' sb g (E bs safe done A) → ((E bs safe done A).left == 0) = dd → Calls Try.prog 24 #[.pointer (some ⟨sb, 0, none⟩)] w' fun e w2 => e = .returned (.bool dd) ∧ w2 = w') := by
        intro w' dd hI hdd
        rw [← hdd]; exact dead_t _ hI
      have hDead2 : Hid (∀ w' g', Is w.heap.size w' sb g' ((E bs safe done A).crash []) → Calls Try.prog 24 #[.pointer (some ⟨sb, 0, none⟩)] w' fun e w2 => e = .returned (.bool false) ∧ w2 = w') := fun w' g' hI => dead_t _ hI
      have hCr : Hid (∀ w', Is w.heap.size w' sb g (E bs safe done A) → Below w.heap.size w w' → Calls Try.prog 22 #[.pointer (some ⟨sb, 0, none⟩), .slice none 0 0] w' fun e w2 => e = .returned (.tuple #[]) ∧ ∃ g', Is w.heap.size w2 sb g' ((E bs safe done A).crash []) ∧ Below w.heap.size w w2) := by
        intro w' hI hB
        refine (crash_t _ hI _ [] (hI0 w') (fun h => absurd rfl h)).mono ?_
        rintro e w2 ⟨rfl, g', hs, h'⟩
        exact ⟨rfl, g', h', hB.trans (hs.low hI)⟩
      clear hI0
      by_cases hda : done < A
      · have hdd : ((E bs safe done A).left == 0) = false := by show ((A : Int) - done == 0) = _; simp; omega
        have hge2 : ¬ (A : Int) ≤ (done : Int) := by omega
        replace hdd := hid hdd
        by_cases hb : bs = []
        · subst hb
          have hR := hrd [] 31 (read_none safe done A hda)
          have hR2 := hrd2 [] 31 (after_none safe done A)
          go_wp2_with fail
          refine hR.out.mono ?_
          rintro e w4 ⟨ra, rc, rfl, k4, L4⟩
          replace k4 := hid k4
          replace L4 := hid L4
          go_wp2_with fail
          refine (hDead.out _ false k4.out hdd.out).mono ?_
          rintro e w5 ⟨rfl, rfl⟩
          go_wp2_with fail
          refine (acts_t _ k4.out).mono ?_
          rintro e w6 ⟨rfl, rfl⟩
          rw [show (E [] safe done A).acts = done from rfl]
          go_wp2_with fail
          refine (hDead.out _ false k4.out hdd.out).mono ?_
          rintro e w7 ⟨rfl, rfl⟩
          go_wp2_with fail
          refine (hCr.out _ k4.out L4.out).mono ?_
          rintro e w8 ⟨rfl, g8, k8, L8⟩
          replace k8 := hid k8
          replace L8 := hid L8
          go_wp2_with fail
          refine (hR2.out _ _ k8.out L8.out).mono ?_
          rintro e w9 ⟨ra9, rc9, rfl, k9, L9⟩
          replace k9 := hid k9
          replace L9 := hid L9
          go_wp2_with fail
          refine (hDead2.out _ _ k9.out).mono ?_
          rintro e w10 ⟨rfl, rfl⟩
          go_wp2
          go_ret
          exact ⟨rfl, L9.out⟩
        · have hpos := List.length_pos_iff.2 hb
          have hz : ((bs.length : Int) == 0) = false := by simp; omega
          have hz2 : (0 : Int) < (bs.length : Int) := by omega
          have hz3 : ((bs.take safe).length : Int) = (safe : Int) := by simp; omega
          have hR := hrd bs 0 (read_some bs safe done A hda hb)
          have hR2 := hrd2 (bs.take safe) 0 (after_some bs safe done A hsf hb)
          go_wp2_with fail
          refine hR.out.mono ?_
          rintro e w4 ⟨ra, rc, rfl, k4, L4⟩
          replace k4 := hid k4
          replace L4 := hid L4
          go_wp2_with fail
          refine (hDead.out _ false k4.out hdd.out).mono ?_
          rintro e w5 ⟨rfl, rfl⟩
          go_wp2_with fail
          refine (acts_t _ k4.out).mono ?_
          rintro e w6 ⟨rfl, rfl⟩
          rw [show (E bs safe done A).acts = done from rfl]
          go_wp2_with fail
          refine (hDead.out _ false k4.out hdd.out).mono ?_
          rintro e w7 ⟨rfl, rfl⟩
          go_wp2_with fail
          refine (hCr.out _ k4.out L4.out).mono ?_
          rintro e w8 ⟨rfl, g8, k8, L8⟩
          replace k8 := hid k8
          replace L8 := hid L8
          go_wp2_with fail
          refine (hR2.out _ _ k8.out L8.out).mono ?_
          rintro e w9 ⟨ra9, rc9, rfl, k9, L9⟩
          replace k9 := hid k9
          replace L9 := hid L9
          go_wp2_with fail
          refine (hDead2.out _ _ k9.out).mono ?_
          rintro e w10 ⟨rfl, rfl⟩
          go_wp2
          go_ret
          exact ⟨rfl, L9.out⟩
      · obtain rfl : done = A := by omega
        have hdd : ((E bs safe done done).left == 0) = true := by show ((done : Int) - done == 0) = _; simp
        replace hdd := hid hdd
        by_cases hb : bs = []
        · subst hb
          have hR := hrd [] 30 (read_no [] safe done done rfl)
          have hR2 := hrd2 [] 31 (after_none safe done done)
          go_wp2_with fail
          refine hR.out.mono ?_
          rintro e w4 ⟨ra, rc, rfl, k4, L4⟩
          replace k4 := hid k4
          replace L4 := hid L4
          go_wp2_with fail
          refine (hDead.out _ true k4.out hdd.out).mono ?_
          rintro e w5 ⟨rfl, rfl⟩
          go_wp2_with fail
          refine (acts_t _ k4.out).mono ?_
          rintro e w6 ⟨rfl, rfl⟩
          rw [show (E [] safe done done).acts = done from rfl]
          go_wp2_with fail
          refine (hDead.out _ true k4.out hdd.out).mono ?_
          rintro e w7 ⟨rfl, rfl⟩
          go_wp2_with fail
          refine (hCr.out _ k4.out L4.out).mono ?_
          rintro e w8 ⟨rfl, g8, k8, L8⟩
          replace k8 := hid k8
          replace L8 := hid L8
          go_wp2_with fail
          refine (hR2.out _ _ k8.out L8.out).mono ?_
          rintro e w9 ⟨ra9, rc9, rfl, k9, L9⟩
          replace k9 := hid k9
          replace L9 := hid L9
          go_wp2_with fail
          refine (hDead2.out _ _ k9.out).mono ?_
          rintro e w10 ⟨rfl, rfl⟩
          go_wp2
          go_ret
          exact ⟨rfl, L9.out⟩
        · have hpos := List.length_pos_iff.2 hb
          have hz : ((bs.length : Int) == 0) = false := by simp; omega
          have hz2 : (0 : Int) < (bs.length : Int) := by omega
          have hz3 : ((bs.take safe).length : Int) = (safe : Int) := by simp; omega
          have hR := hrd [] 30 (read_no bs safe done done rfl)
          have hR2 := hrd2 (bs.take safe) 0 (after_some bs safe done done hsf hb)
          go_wp2_with fail
          refine hR.out.mono ?_
          rintro e w4 ⟨ra, rc, rfl, k4, L4⟩
          replace k4 := hid k4
          replace L4 := hid L4
          go_wp2_with fail
          refine (hDead.out _ true k4.out hdd.out).mono ?_
          rintro e w5 ⟨rfl, rfl⟩
          go_wp2_with fail
          refine (acts_t _ k4.out).mono ?_
          rintro e w6 ⟨rfl, rfl⟩
          rw [show (E bs safe done done).acts = done from rfl]
          go_wp2_with fail
          refine (hDead.out _ true k4.out hdd.out).mono ?_
          rintro e w7 ⟨rfl, rfl⟩
          go_wp2_with fail
          refine (hCr.out _ k4.out L4.out).mono ?_
          rintro e w8 ⟨rfl, g8, k8, L8⟩
          replace k8 := hid k8
          replace L8 := hid L8
          go_wp2_with fail
          refine (hR2.out _ _ k8.out L8.out).mono ?_
          rintro e w9 ⟨ra9, rc9, rfl, k9, L9⟩
          replace k9 := hid k9
          replace L9 := hid L9
          go_wp2_with fail
          refine (hDead2.out _ _ k9.out).mono ?_
          rintro e w10 ⟨rfl, rfl⟩
          go_wp2
          go_ret
          exact ⟨rfl, L9.out⟩
end filesEnds
end Go.Proofs.Ytinnegkkfaaceaa
