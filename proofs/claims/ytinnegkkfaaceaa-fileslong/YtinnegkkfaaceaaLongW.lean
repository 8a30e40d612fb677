/- The walk of FilesLong. -/
import Derived.Test.YtinnegkkfaaceaaLongP
import Derived.Test.YtinnegkkfaaceaaRows
import Derived.Laws.MakeOwn
namespace Go.Proofs.Ytinnegkkfaaceaa
namespace filesLong
open Go.RowKit Go.Maps Go.MapKept Go.Shelf

/-- so many noughts in memory. -/
def zcells (n : Nat) : Array Value := ((List.replicate n (0 : UInt8)).map bv).toArray
theorem made_z (n : Nat) : madeCells #[Value.int .u8 0] n = zcells n := by
  unfold madeCells zcells bv
  apply Array.ext
  · simp
  · intro i h1 h2
    simp [Nat.mod_one]
theorem mk_run (n : Nat) (hn : n ≤ 1000000) (W : World) : (Instr.makeSlice 30 (.int .i64 (n : Int)) (.int .i64 (n : Int))).run Try.prog W = .ok (.slice (some ⟨W.heap.size, 0, none⟩) n n) (W.alloc (.cells (zcells n) 5)) := by
  obtain ⟨i0, hi, hz0, hz1, hz2⟩ := info_parts bytesInfo
  have h := run_make (P := Try.prog) W 30 5 i0 (.int .u8 0) Try.underlying30 hi hz0 .i64 .i64 (n : Int) (n : Int) (by omega) (by omega) (by rw [hz2]; omega) (by omega)
  rw [h, hz1, Int.toNat_natCast, Nat.mul_one]
  show Result.ok _ (W.alloc (.cells (madeCells #[Value.int .u8 0] n) _)) = _
  rw [made_z]
theorem isB_z (W : World) (n : Nat) (hn : n ≤ 1000000) : IsB (W.alloc (.cells (zcells n) 5)) (.slice (some ⟨W.heap.size, 0, none⟩) n n) (List.replicate n 0) := by
  have h := isB_lit W (List.replicate n 0) n (by simp [maxLen]; omega)
  rw [List.length_replicate] at h
  exact h
theorem names_t {B sb : Nat} {g : Gs} {t : St} (w : World) (h : Is B w sb g t) :
    Calls Try.prog 19 #[ptr sb] w fun e w' => ∃ a c, e = .returned (.slice a t.l.length c) ∧ Below w.heap.size w w' := by
  refine (names_any w h.1).mono ?_
  rintro e w' ⟨a, c, rfl, _, hb⟩
  refine ⟨a, c, ?_, hb⟩
  rw [names_length, ← h.2.1]
  simp [Gs.abs]
theorem conv2 (x y : Int) (W : World) : (convert 30 9 (.slice (some ⟨W.heap.size, 0, none⟩) 2 2)).run Try.prog (W.alloc (.cells #[.int .u8 x, .int .u8 y] 5)) = .ok (.string (strOfNums [x, y])) (W.alloc (.cells #[.int .u8 x, .int .u8 y] 5)) := by
  refine run_convert_bytes_arg (P := Try.prog) _ 30 5 Try.underlying30 Try.underlying5 W.heap.size 0 2 2 [x, y] rfl (fun i hi => ?_) 9 Try.underlying9
  have e : (W.alloc (.cells #[.int .u8 x, .int .u8 y] 5)).heap[W.heap.size]? = some (.cells #[.int .u8 x, .int .u8 y] 5) := (MapKept.heap_alloc W _).1
  rw [cell_of e, Nat.zero_add]
  match i, hi with
  | 0, _ => rfl
  | 1, _ => rfl
theorem size2 (x y : Int) : (strOfNums [x, y]).size = 2 := strOfNums_size _
theorem name_eq (j : Nat) (_ : j < 80) : Value.string (⟨#[98]⟩ ++ strOfNums [97 + (j : Int) % 26, 97 + (j : Int) / 26]) = str (nm j) := by
  have e1 : (97 + (j : Int) % 26).toNat = 97 + j % 26 := by omega
  have e2 : (97 + (j : Int) / 26).toNat = 97 + j / 26 := by omega
  have h : (⟨#[98]⟩ ++ strOfNums [97 + (j : Int) % 26, 97 + (j : Int) / 26] : ByteArray) = ⟨(nm j).toArray⟩ := by
    apply ByteArray.ext
    rw [ByteArray.data_append]
    unfold strOfNums nm
    simp [e1, e2]
  rw [h]; rfl
set_option maxHeartbeats 4000000 in
theorem walk (a0 a1 a2 : Int) (w : World) (_ : (Lit.int .i64 a0).wf = true) (_ : (Lit.int .i64 a1).wf = true) (_ : (Lit.int .i64 a2).wf = true) :
    Calls Try.prog 4 #[.int .i64 a0, .int .i64 a1, .int .i64 a2] w fun e w' => e = .returned (.bool true) ∧ Below w.heap.size w w' := by
  obtain ⟨N, hN, eN⟩ := mod_small a0 400000 (by decide) (by decide)
  obtain ⟨P, hP, eP⟩ := mod_small a1 9 (by decide) (by decide)
  obtain ⟨M, hM, eM⟩ := mod_small a2 80 (by decide) (by decide)
  replace eN := hid eN
  replace eP := hid eP
  replace eM := hid eM
  go_enter Try.func4, Try.ntmps4
  go_wp2_with fail
  refine (new_t _).mono ?_
  rintro e w1 ⟨rfl, h1, hb1, hs1⟩
  have L1 := hid hb1
  replace h1 := hid h1
  clear hb1 hs1
  generalize g0 w.heap.size = g1 at h1
  generalize w.heap.size + 1 = sb at h1 ⊢
  have eN' := eN.out
  have eP' := eP.out
  have eM' := eM.out
  simp only [Int.cast_ofNat_Int] at eN' eP' eM'
  rw [eN', eP', eM']
  clear eN' eP' eM' eN eP eM
  unfold ptr
  have en : wrap64 ((N : Int) + 1) = ((N + 1 : Nat) : Int) := by unfold wrap64; omega
  rw [en]
  clear en
  obtain ⟨n, hn⟩ : ∃ n, n = N + 1 := ⟨_, rfl⟩
  rw [← hn]
  have hn1 : 0 < n := by omega
  have hn2 : n ≤ 400000 := by omega
  clear hn hN
  have hmk := mk_run n (by omega)
  have h1' : Hid (Is w.heap.size w1 sb g1 (F 0 0)) := h1.out
  go_wp2_with fail
  go_loopw [8, 9] (fun sv iv wr => ∃ (i size acts : Nat) (g : Gs), i ≤ P ∧ size ≤ 1048576 ∧ (i = 0 ∨ 0 < size) ∧ acts ≤ i ∧ sv = .int .i64 size ∧ iv = .int .i64 i ∧ Is w.heap.size wr sb g (F size acts) ∧ Below w.heap.size w wr) (fun _ iv _ => P - (intOf iv).toNat)
  case atStart => exact ⟨0, 0, 0, g1, by omega, by omega, .inl rfl, by omega, rfl, rfl, h1'.out, L1.out⟩
  case round =>
    rename_i wr
    obtain ⟨i, size, acts, g, hi, hsz, hor, hac, rfl, rfl, hIs, hL⟩ := hrel
    replace hIs := hid hIs
    replace hL := hid hL
    clear h1 h1' L1
    by_cases hlt : i < P
    · have hlt' : (i : Int) < (P : Int) := by omega
      have hIs' := hid (hIs.out.below (alloc_below wr (.cells (zcells n) 5)))
      have hL' := hid (low hL.out hIs.out.2.2 (alloc_below wr (.cells (zcells n) 5)))
      by_cases hfit : size + n ≤ 1048576
      · have hfit' : ¬ (1048576 : Int) < (size : Int) + (n : Int) := by omega
        have hap := hid (append_t _ hIs'.out [97] (by decide) _ (List.replicate n 0) (isB_z wr n (by omega)) (by show acts < _; omega) (app_yes size acts n hfit hn1))
        go_wp2_with (go_at_call 18; refine hap.out.mono ?_; rintro e w4 ⟨rfl, g4, s4, h4⟩; have L4 := hid (hL'.out.trans (s4.low hIs'.out)); replace h4 := hid h4; clear s4)
        exact ⟨⟨i + 1, size + n, acts + 1, g4, by omega, hfit, .inr (by omega), by omega, by go_num, by go_num, h4.out, L4.out⟩, by simp [intOf]; omega⟩
      · have hfit' : (1048576 : Int) < (size : Int) + (n : Int) := by omega
        have hap := hid (append_t _ hIs'.out [97] (by decide) _ (List.replicate n 0) (isB_z wr n (by omega)) (by show acts < _; omega) (app_no size acts n (by omega) (by omega)))
        go_wp2_with (go_at_call 18; refine hap.out.mono ?_; rintro e w4 ⟨rfl, g4, s4, h4⟩; have L4 := hid (hL'.out.trans (s4.low hIs'.out)); replace h4 := hid h4; clear s4)
        exact ⟨⟨i + 1, size, acts, g4, by omega, hsz, .inr (by omega), by omega, rfl, by go_num, h4.out, L4.out⟩, by simp [intOf]; omega⟩
    · have hge : ¬ (i : Int) < (P : Int) := by omega
      have hnm := hid (names_t _ hIs.out)
      have hQ := hid (F_Q size acts (by omega))
      generalize F size acts = t0 at hIs hnm hQ
      unfold ptr at hnm
      go_wp2_with (go_at_call 19; refine hnm.out.mono ?_; rintro e w5 ⟨na, nc, rfl, hb5⟩; have h5 := hid (hIs.out.below hb5); have L5 := hid (low hL.out hIs.out.2.2 hb5); clear hb5)
      clear hnm hmk hor hac hsz hIs hL
      go_loopw [11, 12] (fun tv jv wr => ∃ (j there : Nat) (t : St) (g : Gs), j ≤ M ∧ tv = .int .i64 there ∧ jv = .int .i64 j ∧ Q j there t ∧ Is w.heap.size wr sb g t ∧ Below w.heap.size w wr) (fun _ jv _ => M - (intOf jv).toNat)
      case atStart => exact ⟨0, t0.l.length, t0, g, by omega, rfl, rfl, hQ.out, h5.out, L5.out⟩
      case round =>
        rename_i wq
        obtain ⟨j, there, t, g6, hj, rfl, rfl, hq, hIs, hL⟩ := hrel
        have hfew := hq.few
        have hacts := hq.acts
        have hlen := hq.len
        replace hq := hid hq
        replace hIs := hid hIs
        replace hL := hid hL
        clear h5 L5 hQ
        by_cases hlt2 : j < M
        · have hlt3 : (j : Int) < (M : Int) := by omega
          have hcv := conv2
          have hs2 := size2
          have hname := hid (name_eq j (by omega))
          have hIsn : ∀ W, IsB W (.slice none 0 0) [] := fun W => ⟨by simp, none, 0, rfl, .inl rfl⟩
          have hIs' := hid (hIs.out.below (alloc_below _ (.cells #[.int .u8 (97 + (j : Int) % 26), .int .u8 (97 + (j : Int) / 26)] 5)))
          have hL' := hid (low hL.out hIs.out.2.2 (alloc_below _ (.cells #[.int .u8 (97 + (j : Int) % 26), .int .u8 (97 + (j : Int) / 26)] 5)))
          by_cases hful : 64 ≤ there
          · have hful' : (64 : Int) ≤ (there : Int) := by omega
            obtain ⟨q1, q2⟩ := hq.out.no (by omega) hful
            have hap := hid (append_t _ hIs'.out (nm j) (by simp [nm]) _ [] (hIsn _) (by omega) q1)
            replace q2 := hid q2
            clear q1 hIsn
            go_wp2_with (go_at_call 18; rw [hname.out]; refine hap.out.mono ?_; rintro e w7 ⟨rfl, g7, s7, h7⟩; have L7 := hid (hL'.out.trans (s7.low hIs'.out)); replace h7 := hid h7; clear s7)
            exact ⟨⟨j + 1, there, t, g7, by omega, rfl, by go_num, q2.out, h7.out, L7.out⟩, by simp [intOf]; omega⟩
          · have hful' : ¬ (64 : Int) ≤ (there : Int) := by omega
            obtain ⟨t7, q1, q2⟩ := hq.out.yes (by omega) (by omega)
            have hap := hid (append_t _ hIs'.out (nm j) (by simp [nm]) _ [] (hIsn _) (by omega) q1)
            replace q2 := hid q2
            clear q1 hIsn
            go_wp2_with (go_at_call 18; rw [hname.out]; refine hap.out.mono ?_; rintro e w7 ⟨rfl, g7, s7, h7⟩; have L7 := hid (hL'.out.trans (s7.low hIs'.out)); replace h7 := hid h7; clear s7)
            exact ⟨⟨j + 1, there + 1, t7, g7, by omega, by go_num, by go_num, q2.out, h7.out, L7.out⟩, by simp [intOf]; omega⟩
        · have hge2 : ¬ (j : Int) < (M : Int) := by omega
          have hnm := hid (names_t _ hIs.out)
          unfold ptr at hnm
          rw [hlen] at hnm
          have haw := hid awake_any
          clear hlen
          go_wp2_with (first | (go_at_call 19; refine hnm.out.mono ?_; rintro e w8 ⟨na8, nc8, rfl, hb8⟩; have L8 := hid (low hL.out hIs.out.2.2 hb8); have B8 := hid (Nat.le_trans hIs.out.2.2 hb8.size); clear hb8) | (go_at_call 20; refine (haw.out _).mono ?_; rintro e w9 ⟨rfl, hb9⟩; have L9 := hid (low L8.out B8.out hb9); clear hb9))
          go_ret
          exact ⟨rfl, L9.out⟩
end filesLong
end Go.Proofs.Ytinnegkkfaaceaa
