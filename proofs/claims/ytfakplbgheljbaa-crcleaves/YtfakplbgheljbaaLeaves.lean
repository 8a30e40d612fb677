/- For any slice of slices of bytes the law CrcLeaves of the program returns true and leaves them as they were: what any piece, what any pieces leave is what the document says. No condition. -/
import Derived.Test.YtfakplbgheljbaaW5
import Derived.Test.YtfakplbgheljbaaOpen2
import Derived.Deep.QuietTactic
import Derived.BigQuiet
namespace Go.Proofs.Ytfakplbgheljbaa.crcLeaves
open Go.ChangeShapes Go.WideShapes Go.ChangeAt Go.RowKit
set_option linter.unusedVariables false

theorem below_drewN {B : Nat} {a w : World} (h : Below B a w) (n : Nat) : Below B a (w.drewN n) := h.trans ⟨rfl, rfl, rfl, Nat.le_refl _, fun _ _ => rfl⟩
theorem flat_in (l : List (List Int)) (w : World) (v : Value) (h : IsQ w v l) : ∀ z ∈ l.flatten, 0 ≤ z ∧ z < 256 := by
  intro z hz
  obtain ⟨zs, hzs, hm⟩ := List.mem_flatten.1 hz
  obtain ⟨_, a, cap, rfl, hor⟩ := h
  rcases hor with rfl | ⟨b, off, rfl, hc⟩
  · simp at hz
  · obtain ⟨i, hi, e⟩ := List.getElem_of_mem hzs
    obtain ⟨u, _, hB, _⟩ := hc i hi
    have : l.getD i [] = zs := by simp [List.getD, List.getElem?_eq_getElem hi, e]
    rw [this] at hB
    exact hB.2.1 z hm
theorem isQ_one {w : World} {v : Value} {zs : List Int} (t : TypeId) (h : IsB w v zs) (hn : ∀ n c, v = .slice none n c → c = 0) : IsQ (w.alloc (.cells #[v] t)) (.slice (some ⟨w.heap.size, 0, none⟩) 1 1) [zs] := by
  refine ⟨by simp [maxLen], _, _, rfl, .inr ⟨_, _, rfl, fun i hi => ?_⟩⟩
  match i, hi with
  | 0, _ => exact ⟨v, by rw [World.cell?_alloc_new]; simp, h.below ((Below.refl _ _).alloc (Nat.le_refl _) _), hn⟩
theorem two_cells {w : World} {v : Value} {zs : List Int} (h : IsB w v zs) : ∃ a cap, v = .slice a zs.length cap ∧ ∀ i, i < zs.length → ∃ b off, a = some ⟨b, off, none⟩ ∧ w.cell? ⟨b, off + i, none⟩ = some (.int .u8 (zs.getD i 0)) := by
  obtain ⟨_, _, a, cap, rfl, _, _, hor⟩ := h
  refine ⟨a, cap, rfl, fun i hi => ?_⟩
  rcases hor with rfl | ⟨b, off, rfl, hc⟩
  · simp at hi
  · exact ⟨b, off, rfl, hc i hi⟩

set_option maxHeartbeats 4000000 in
theorem walk (v : Value) (l : List (List Int)) (w : World) (h : IsQ w v l) (hs : ∀ z ∈ l, z.length ≤ 140737488351232) :
    Calls Try.prog 3 #[v] w fun e w' => e = .returned (.bool true) ∧ Below w.heap.size w w' := by
  by_cases hg : 10000 < wt l
  · have hd : decide (10000 < wt l) = true := by simpa using hg
    have H := hid h
    have HS := hid hs
    obtain ⟨a, cap, rfl⟩ : ∃ a cap, v = .slice a l.length cap := by obtain ⟨_, a, cap, h, _⟩ := h; exact ⟨a, cap, h⟩
    clear h hs
    go_enter Try.func3, Try.ntmps3
    go_wp2_with (go_at_call 9; refine (great_any _ l _ H.out.isP HS.out).mono ?_; rintro e w' ⟨rfl, rfl⟩)
    go_ret
    exact ⟨rfl, Below.refl _ _⟩
  · have hd : decide (10000 < wt l) = false := by simpa using hg
    have hfl : l.flatten.length ≤ 9999 := by
      unfold wt at hg
      cases l with
      | nil => simp
      | cons z l => simp at hg ⊢; omega
    have hwt : wt l ≤ 10000 := by omega
    have HZ := hid (flat_in l w v h)
    have H := hid h
    have HS := hid hs
    obtain ⟨a, cap, rfl⟩ : ∃ a cap, v = .slice a l.length cap := by obtain ⟨_, a, cap, h, _⟩ := h; exact ⟨a, cap, h⟩
    clear h hs hg
    obtain ⟨zs, hzs⟩ : ∃ zs, l.flatten = zs := ⟨_, rfl⟩
    rw [hzs] at hfl HZ
    obtain ⟨s, hsum⟩ : ∃ s : R, s = sum zs := ⟨_, rfl⟩
    have HZS := hid hzs
    have HSUM := hid hsum
    have HFL := hid hfl
    clear hzs hsum
    have ts : ((s.toNat : Int) != (s.toNat : Int)) = false := by simp
    go_enter Try.func3, Try.ntmps3
    go_wp2_with fail
    refine (great_any _ l _ H.out.isP HS.out).mono ?_
    rintro e w' ⟨rfl, hw⟩
    have hw2 := hw.symm
    subst hw2
    clear hw
    go_wp2_with fail
    refine (all_any _ l _ H.out (by rw [HZS.out]; exact HZ.out) hwt).mono ?_
    rintro e w1 ⟨v3, rfl, hB3, hn3, b1⟩
    rw [HZS.out] at hB3
    obtain ⟨a3, cap3, rfl, c3⟩ := two_cells hB3
    have HB3 := hid hB3
    have HN3 := hid hn3
    have HB1 := hid b1
    clear hB3 hn3 b1 c3
    go_wp2_with fail
    refine (rsum_any _ zs _ HB3.out (Nat.le_trans HFL.out (by decide))).mono ?_
    rintro e w2 ⟨he, b2⟩
    rw [← HSUM.out] at he
    subst he
    have HQ3 := hid (isQ_one 24 (HB3.out.below b2) HN3.out)
    have HB2 : Hid (Below w.heap.size w w2) := HB1.out.trans (b2.mono HB1.out.size)
    have hB3' := HB3.out.below b2
    have HB3' := hid hB3'
    clear b2 HB3 HB1 hB3'
    go_wp2_with fail
    refine (all_any _ [zs] _ HQ3.out (by simpa using HZ.out) (by unfold wt; simp; have := HFL.out; omega)).mono ?_
    rintro e w3 ⟨v5, rfl, hB5, hn5, b3⟩
    rw [show [zs].flatten = zs by simp] at hB5
    obtain ⟨a5, cap5, rfl, c5⟩ := two_cells hB5
    have HB5 := hid hB5
    have HB3w : Hid (Below w.heap.size w w3) := (HB2.out.alloc HB2.out.size _).trans (b3.mono (by have := HB2.out.size; simp; omega))
    have HB3v : Hid (IsB w3 (.slice a3 zs.length cap3) zs) := (HB3'.out.below ((Below.refl _ _).alloc (Nat.le_refl _) _)).below b3
    clear hB5 hn5 b3 c5 HB3' HQ3 HB2
    go_wp2_with fail
    refine (of_any _ l _ (H.out.below HB3w.out).isP).mono ?_
    rintro e w3' ⟨he, rfl⟩
    rw [HZS.out, ← HSUM.out] at he
    subst he
    go_wp2_with fail
    refine (sum_any _ zs _ HB5.out).mono ?_
    rintro e w4 ⟨he, b4⟩
    rw [← HSUM.out] at he
    subst he
    have HB4w : Hid (Below w.heap.size w w4) := HB3w.out.trans (b4.mono HB3w.out.size)
    have HB4v : Hid (IsB w4 (.slice a3 zs.length cap3) zs) := HB3v.out.below b4
    have HB5v : Hid (IsB w4 (.slice a5 zs.length cap5) zs) := HB5.out.below b4
    clear b4 HB3w HB3v HB5
    obtain ⟨_, _, hv3, c3⟩ := two_cells HB4v.out
    obtain ⟨_, _, hv5, c5⟩ := two_cells HB5v.out
    obtain ⟨rfl, rfl⟩ : a3 = _ ∧ cap3 = _ := by simpa using hv3
    obtain ⟨rfl, rfl⟩ : a5 = _ ∧ cap5 = _ := by simpa using hv5
    have CC3 := hid c3
    have CC5 := hid c5
    clear hv3 hv5 c3 c5
    go_wp2_with fail
    go_loopw [6] (fun i wr => ∃ k : Nat, k ≤ zs.length ∧ i = .int .i64 k ∧ ∃ n, wr = w4.drewN n) (fun i _ => zs.length - (intOf i).toNat)
    case atStart => exact ⟨0, Nat.zero_le _, rfl, 0, rfl⟩
    case round =>
      obtain ⟨k, hk, rfl, n, rfl⟩ := hrel
      by_cases hlt : k < zs.length
      · have hk' : (k : Int) < (zs.length : Int) := by omega
        obtain ⟨b3, o3, rfl, hc3⟩ := CC3.out k hlt
        obtain ⟨b5, o5, rfl, hc5⟩ := CC5.out k hlt
        have tz : ((zs.getD k 0) != (zs.getD k 0)) = false := by simp
        go_wp2
        go_quiet (fail)
        go_wp2
        go_roundw
        case rel => exact ⟨k + 1, by omega, by go_num, _, rfl⟩
        case measure => simp [intOf]; omega
      · have hk' : ¬ (k : Int) < (zs.length : Int) := by omega
        go_wp2_with fail
        have hbd : Below w.heap.size w (w4.drewN n) := below_drewN HB4w.out n
        have HBd := hid hbd
        clear hbd
        refine (all_any _ l _ (H.out.below HBd.out) (by rw [HZS.out]; exact HZ.out) hwt).mono ?_
        rintro e w5 ⟨v7, rfl, hB7, hn7, b7⟩
        rw [HZS.out] at hB7
        obtain ⟨a7, cap7, rfl, c7⟩ := two_cells hB7
        have HB5w : Hid (Below w.heap.size w w5) := HBd.out.trans (b7.mono HBd.out.size)
        have hB3'' := (HB4v.out.below (below_drewN (Below.refl _ _) n)).below b7
        obtain ⟨_, _, hv3', c3'⟩ := two_cells hB3''
        obtain ⟨h31, h32⟩ : a3 = _ ∧ cap3 = _ := by simpa using hv3'
        rw [← h31] at c3'
        have CC3' := hid c3'
        have CC7 := hid c7
        clear hv3' c3' c7 hB7 hn7 b7 hB3'' h31 h32 CC3 CC5 HB4v HB5v HBd
        go_wp2_with fail
        go_loopw [8] (fun i wr => ∃ k : Nat, k ≤ zs.length ∧ i = .int .i64 k ∧ ∃ n, wr = w5.drewN n) (fun i _ => zs.length - (intOf i).toNat)
        case atStart => exact ⟨0, Nat.zero_le _, rfl, 0, rfl⟩
        case round =>
          obtain ⟨k2, hk2, rfl, n2, rfl⟩ := hrel
          by_cases hlt2 : k2 < zs.length
          · have hk2' : (k2 : Int) < (zs.length : Int) := by omega
            obtain ⟨b3, o3, rfl, hc3⟩ := CC3'.out k2 hlt2
            obtain ⟨b7, o7, rfl, hc7⟩ := CC7.out k2 hlt2
            have tz : ((zs.getD k2 0) != (zs.getD k2 0)) = false := by simp
            go_wp2
            go_quiet (fail)
            go_wp2
            go_roundw
            case rel => exact ⟨k2 + 1, by omega, by go_num, _, rfl⟩
            case measure => simp [intOf]; omega
          · have hk2' : ¬ (k2 : Int) < (zs.length : Int) := by omega
            go_wp2_with fail
            go_ret
            exact ⟨rfl, below_drewN HB5w.out _⟩

theorem own : ownKnob Try.prog.godebug = none := by kernel_rfl
theorem laidOut : laidOutB Try.prog = true := by kernel_rfl

set_option maxRecDepth 100000 in
theorem lifted (os : Os) (started : os.Started) (H : Type) (enc : TypeId × Value → H) :
    ReturnsInHanded {} Try.checked os 3 .any (Rows.crcLeavesSpec.pre6 enc Try.prog Try.f3 Rows.crcLeavesRow.domain false) (Rows.crcLeavesSpec.post enc Try.prog Try.f3 false true false false) := by
  refine returnsInHanded_of_change_sized (C := Try.checked) own started (by kernel_rfl) Try.func3
    (ChangeSpec.witness6 (enc := enc) (C := Try.checked) false ⟨#[], #[.slice none 0 0], []⟩ 8 (by kernel_rfl) (by kernel_rfl) (by kernel_rfl) (by kernel_rfl)) ?_
  intro W base args ds gs before hval0 hW hcnd hsz0 _
  have hval : ∀ (j : Nat) t v, Try.f3.params[j]? = some t → args[j]? = some v → Value.okWide Try.prog W .any base t v := hval0
  have hW' := hW
  obtain ⟨p, q, hA0, hV, rfl, hfz, hnd⟩ := hW
  have hA : DataW.TrodAll enc Try.prog W 0 (fun _ => true) true Try.f3.params.toList args.toList ds p := hA0
  rw [Try.params3] at hA hval
  have hsz : (DataW.weightsEach Try.prog (Try.f3.params.toList ++ Rows.crcLeavesSpec.plain.varTypes Try.prog) (ds ++ gs)).all (· ≤ reachBytes) = true := hsz0
  rw [Try.params3] at hsz
  obtain ⟨v0, vs0, d0, ds0, p0, q0, hargs, rfl, rfl, h0, r0⟩ := trodAll_cons hA
  obtain ⟨rfl, rfl, rfl⟩ := trodAll_nil r0
  obtain rfl : args = #[v0] := by cases args; simp_all
  obtain ⟨rfl, rfl⟩ := trodVars_none hV
  have k0 := h0
  have lt0 : ∀ x ∈ p0, x.block < W.heap.size := by obtain ⟨m, hm⟩ := k0; exact DataW.trod_lt m _ _ _ hm
  obtain ⟨z0, w0, s0⟩ := open_pieces2 Try.underlying22 Try.underlying24 Try.underlying5 (by kernel_rfl) (by kernel_rfl) (by kernel_rfl) (hval 0 22 v0 rfl rfl) h0 (fun n hn => by simpa using List.all_eq_true.1 hsz n (DataW.weights_mem_each (j := 0) (t := 22) rfl rfl n hn))
  clear hA0 hval0
  refine (walk v0 z0 W w0 s0).mono fun e W' ⟨he, bel⟩ => ?_
  subst he
  exact ⟨_, rfl, _, _, _, [], _, [], hW', trodAll_mk1 (shut_bool Try.underlying4 _), (trodAll_cons_mk (Below.trod laidOut (by kernel_rfl) (of_decide_eq_true (by kernel_rfl)) k0 bel lt0) trodAll_mk0), rfl, bel.frame _, fun h => by cases h⟩

theorem over : Rows.crcLeavesRow.holds Try.pinned (OpenSpec.ofChange Rows.crcLeavesSpec) :=
  OpenClaim.holds_of_wide 3 Try.f3 rfl rfl rfl rfl rfl rfl rfl ⟨rfl, rfl, rfl, rfl, rfl⟩ rfl rfl rfl rfl rfl (by kernel_rfl) Try.func3 (by kernel_rfl)
    (of_decide_eq_true (by kernel_rfl)) (by unfold Func.isWrapper; first | (rw [if_pos (by decide +kernel)]; kernel_rfl) | (rw [if_neg (by decide +kernel)]; exact ⟨rfl, rfl⟩))
    (fun os started H enc _ => lifted os started H enc)

theorem proved : Rows.CrcLeavesSaid := over
#print axioms proved

end Go.Proofs.Ytfakplbgheljbaa.crcLeaves
