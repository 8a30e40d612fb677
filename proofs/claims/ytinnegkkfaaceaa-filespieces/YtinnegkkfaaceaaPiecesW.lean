/- The walk of FilesPieces. -/
import Derived.Test.YtinnegkkfaaceaaPiecesP
import Derived.Test.YtinnegkkfaaceaaRows
namespace Go.Proofs.Ytinnegkkfaaceaa
namespace filesPieces
open Go.RowKit Go.Maps Go.MapKept Go.Shelf

theorem piece {w : World} {a : Option Addr} {n c : Nat} {l : List (List UInt8)} (h : IsP w (.slice a n c) l) (k : Nat) (hk : k < l.length) : ∃ b off ua uc, a = some ⟨b, off, none⟩ ∧ w.cell? ⟨b, off + k, none⟩ = some (.slice ua (l.getD k []).length uc) ∧ IsB w (.slice ua (l.getD k []).length uc) (l.getD k []) ∧ (l.getD k []).length ≤ maxLen := by
  obtain ⟨_, a', c', e, h2⟩ := h
  cases e
  rcases h2 with rfl | ⟨b, off, ha, h2⟩
  · cases hk
  · obtain ⟨u, hu, hB⟩ := h2 k hk
    obtain ⟨h3, ua, uc, rfl, _⟩ := id hB
    exact ⟨b, off, ua, uc, ha, hu, hB, h3⟩
theorem names_t {B sb : Nat} {g : Gs} {t : St} (w : World) (h : Is B w sb g t) :
    Calls Try.prog 19 #[ptr sb] w fun e w' => ∃ a c, e = .returned (.slice a t.l.length c) ∧ Below w.heap.size w w' := by
  refine (names_any w h.1).mono ?_
  rintro e w' ⟨a, c, rfl, _, hb⟩
  refine ⟨a, c, ?_, hb⟩
  rw [names_length, ← h.2.1]
  simp [Gs.abs]
theorem undrewN {B : Nat} {w w1 : World} (h : Below B w w1) (q : Nat) : Below B w (w1.drewN q) := ⟨h.os, h.tape, h.output, h.size, h.block⟩
/-- the store, and beside it the bytes of all pieces so far. -/
structure Both (B : Nat) (w wr : World) (sb : Nat) (g : Gs) (t : St) (v : Value) (bs : List UInt8) : Prop where
  is : Is B wr sb g t
  row : wr.ownsRow B 5 1 v bs.length (bs.map bv)
  far : ∀ b, v.ownBlock = some b → ¬ foot sb g b
  low : Below B w wr
theorem Both.step {B sb : Nat} {w wr w4 : World} {g g4 : Gs} {t t4 : St} {v : Value} {bs : List UInt8} (h : Both B w wr sb g t v bs) (hs : Step B sb wr w4 g g4) (h4 : Is B w4 sb g4 t4) : Both B w w4 sb g4 t4 v bs := by
  refine ⟨h4, ownsRow_block h.row fun k hk => hs.kept.block k (h.row.lt k hk).2 (h.far k hk), fun b hb e => ?_, h.low.trans (hs.low h.is)⟩
  rcases hs.fresh b e with e | e
  · exact h.far b hb e
  · have := (h.row.lt b hb).2; omega
theorem Both.below {B sb : Nat} {w wr w4 : World} {g : Gs} {t : St} {v : Value} {bs : List UInt8} (h : Both B w wr sb g t v bs) (hb : Below wr.heap.size wr w4) : Both B w w4 sb g t v bs :=
  ⟨h.is.below hb, ownsRow_block h.row fun k hk => hb.block k (h.row.lt k hk).2, h.far, Go.Proofs.Ytinnegkkfaaceaa.low h.low h.is.2.2 hb⟩
/-- the bytes grow. -/
theorem Both.grow {B sb : Nat} {w wr : World} {g : Gs} {t : St} {v v2 : Value} {bs ps : List UInt8} (h : Both B w wr sb g t v bs) (h2 : IsB wr v2 ps) (hl : bs.length + ps.length ≤ 20000) :
    ∃ a' c' w', (∀ ty, (Builtin.append_ #[30, 30] ty #[v, v2]).run Try.prog wr = .ok (.slice a' (bs.length + ps.length) c') w') ∧ Both B w w' sb g t (.slice a' (bs.length + ps.length) c') (bs ++ ps) := by
  obtain ⟨a', c', w', hrun, hown, hgr, hat⟩ := app_run h.row h2 (by omega) h.is.2.2
  have hk : ∀ k, foot sb g k → w'.heap[k]? = wr.heap[k]? := fun k hk => hgr.block k (h.is.1.lt hk) fun e => h.far k e.symm hk
  refine ⟨a', c', w', hrun, ⟨h.is.1.keep hk, h.is.2.1, Nat.le_trans h.is.2.2 hgr.size⟩, hown, fun b hb e => ?_, ?_⟩
  · rcases hat with e1 | e1
    · exact h.far b (by rw [← e1]; exact hb) e
    · rw [hb] at e1
      have : b = wr.heap.size := by injection e1
      have := h.is.1.lt e
      omega
  · have hb2 : Below B wr w' := ⟨hgr.os, hgr.tape, hgr.output, hgr.size, fun k hk => hgr.block k (by have := h.is.2.2; omega) fun e => by have := (h.row.lt k e.symm).1; omega⟩
    exact h.low.trans hb2
set_option maxHeartbeats 4000000 in
theorem walk (v : Value) (l : List (List UInt8)) (a1 : Int) (w : World) (hP : IsP w v l) (_ : True) (_ : (Lit.int .i64 a1).wf = true) :
    Calls Try.prog 7 #[v, .int .i64 a1] w fun e w' => e = .returned (.bool true) ∧ Below w.heap.size w w' := by
  have hml := hP.1
  unfold maxLen at hml
  obtain ⟨av, cv, hv⟩ : ∃ a c, v = .slice a l.length c := by obtain ⟨_, a, c, e, _⟩ := hP; exact ⟨a, c, e⟩
  rw [hv] at hP ⊢
  replace hP := hid hP
  clear hv
  go_enter Try.func7, Try.ntmps7
  go_wp2
  go_loop [5, 6] (fun nv iv => ∃ k : Nat, k ≤ l.length ∧ k ≤ 50 ∧ (flat l k).length ≤ 20000 ∧ iv = .int .i64 k ∧ nv = .int .i64 (flat l k).length) (fun _ iv => l.length - (intOf iv).toNat)
  case atStart => exact ⟨0, by omega, by omega, by simp [flat], rfl, by simp [flat]⟩
  case round =>
    obtain ⟨k, hk, hk50, hfl, rfl, rfl⟩ := hrel
    by_cases hlt : k < l.length
    · have hlt' : (k : Int) < (l.length : Int) := by omega
      obtain ⟨b, off, ua, uc, rfl, hcell, hB, hlen⟩ := piece hP.out k hlt
      unfold maxLen at hlen
      have hfs := congrArg List.length (flat_succ l k hlt)
      rw [List.length_append] at hfs
      replace hfs := hid hfs
      replace hB := hid hB
      by_cases h1 : 20000 < (l.getD k []).length
      · have h1' : (20000 : Int) < ((l.getD k []).length : Int) := by omega
        generalize l.getD k [] = z at *
        go_wp2
        go_ret
        exact ⟨rfl, Below.refl _ _⟩
      · have h1' : ¬ (20000 : Int) < ((l.getD k []).length : Int) := by omega
        by_cases h2 : 20000 < (flat l k).length + (l.getD k []).length
        · have h2' : (20000 : Int) < ((flat l k).length : Int) + ((l.getD k []).length : Int) := by omega
          generalize l.getD k [] = z at *
          generalize (flat l k).length = m at *
          go_wp2
          go_ret
          exact ⟨rfl, Below.refl _ _⟩
        · have h2' : ¬ (20000 : Int) < ((flat l k).length : Int) + ((l.getD k []).length : Int) := by omega
          by_cases h3 : 50 ≤ k
          · have h3' : (50 : Int) ≤ (k : Int) := by omega
            generalize l.getD k [] = z at *
            generalize (flat l k).length = m at *
            go_wp2
            go_ret
            exact ⟨rfl, Below.refl _ _⟩
          · have h3' : ¬ (50 : Int) ≤ (k : Int) := by omega
            generalize l.getD k [] = z at *
            generalize (flat l k).length = m at *
            go_wp2
            exact ⟨⟨k + 1, by omega, by omega, by rw [hfs.out]; omega, by go_num, by rw [hfs.out]; go_num⟩, by simp [intOf]; omega⟩
    · have hge : ¬ (k : Int) < (l.length : Int) := by omega
      obtain rfl : k = l.length := by omega
      rw [flat_all] at hfl ⊢
      go_wp2_with fail
      refine (new_t _).mono ?_
      rintro e w1 ⟨rfl, h1, hb1, hs1⟩
      have hs0 : Hid (Both w.heap.size w w1 (w.heap.size + 1) (g0 w.heap.size) (Z l 0) (.slice none 0 0) (flat l 0)) := ⟨h1, World.ownsRow_nil _ _ _ _, fun b hb => by (cases hb), hb1⟩
      clear h1 hb1 hs1
      generalize g0 w.heap.size = g1 at hs0
      generalize w.heap.size + 1 = sb at hs0 ⊢
      unfold ptr
      go_wp2_with fail
      go_loopw [8, 9] (fun bv0 iv wr => ∃ (k : Nat) (g : Gs) (a : Option Addr) (c : Nat), k ≤ l.length ∧ iv = .int .i64 k ∧ bv0 = .slice a (flat l k).length c ∧ Both w.heap.size w wr sb g (Z l k) (.slice a (flat l k).length c) (flat l k)) (fun _ iv _ => l.length - (intOf iv).toNat)
      case atStart => exact ⟨0, g1, none, 0, by omega, rfl, rfl, hs0.out⟩
      case round =>
        rename_i wr
        obtain ⟨k, g, a, c, hk, rfl, rfl, hb⟩ := hrel
        replace hb := hid hb
        clear hs0
        by_cases hlt : k < l.length
        · have hlt' : (k : Int) < (l.length : Int) := by omega
          obtain ⟨b, off, ua, uc, rfl, hcell, hB, hlen⟩ := piece hP.out k hlt
          unfold maxLen at hlen
          have hfs := flat_succ l k hlt
          have hle := flat_le l (k + 1)
          rw [hfs, List.length_append] at hle
          replace hfs := hid hfs
          have hblt := World.block_lt_of_cell? w ⟨b, off + k, none⟩ hcell
          have hlow : ∀ W, Below w.heap.size w W → W.cell? ⟨b, off + k, none⟩ = some (.slice ua (l.getD k []).length uc) ∧ IsB W (.slice ua (l.getD k []).length uc) (l.getD k []) := fun W hW => ⟨(hW.cell (p := ⟨b, off + k, none⟩) hblt).trans hcell, hB.below hW⟩
          obtain ⟨hc1, hB1⟩ := hlow wr hb.out.low
          have hap := hid (append_t _ hb.out.is [97] (by decide) _ (l.getD k []) hB1 (by show k < _; omega) (app l k hlt hfl))
          have fin : Hid (∀ w4 g4, Step w.heap.size sb wr w4 g g4 → Is w.heap.size w4 sb g4 (Z l (k + 1)) → w4.cell? ⟨b, off + k, none⟩ = some (.slice ua (l.getD k []).length uc) ∧ ∃ a' c' w', (∀ ty, (Builtin.append_ #[30, 30] ty #[.slice a (flat l k).length c, .slice ua (l.getD k []).length uc]).run Try.prog w4 = .ok (.slice a' ((flat l k).length + (l.getD k []).length) c') w') ∧ Both w.heap.size w w' sb g4 (Z l (k + 1)) (.slice a' ((flat l k).length + (l.getD k []).length) c') (flat l (k + 1))) := by
            intro w4 g4 hs h4
            have hb4 := hb.out.step hs h4
            obtain ⟨q1, q2⟩ := hlow w4 hb4.low
            obtain ⟨a', c', w', r1, r2⟩ := hb4.grow q2 (by omega)
            refine ⟨q1, a', c', w', r1, ?_⟩
            rw [hfs.out]
            exact r2
          have hfl2 : Hid ((flat l (k + 1)).length = (flat l k).length + (l.getD k []).length) := by rw [hfs.out, List.length_append]; rfl
          clear hlow hB hB1 hcell hle hfs
          unfold ptr str at hap
          generalize l.getD k [] = z at *
          generalize hm : (flat l k).length = m at *
          replace hm := hid hm
          go_wp2_with (first | (go_at_call 18; refine hap.out.mono ?_; rintro e w4 ⟨rfl, g4, s4, h4⟩; obtain ⟨hc4, a4, c4, w5, hrun, hb5⟩ := fin.out w4 g4 s4 h4; replace hb5 := hid hb5; clear s4 h4) | (at_builtin; refine wpList_append_run _ rfl _ _ 30 rfl _ _ _ _ rfl rfl hrun ?_))
          refine ⟨⟨k + 1, g4, a4, c4, by omega, by go_num, by rw [hfl2.out], ?_⟩, by simp [intOf]; omega⟩
          rw [hfl2.out]
          exact hb5.out
        · have hge2 : ¬ (k : Int) < (l.length : Int) := by omega
          obtain rfl : k = l.length := by omega
          rw [flat_all] at hb ⊢
          by_cases h0 : l = []
          · subst h0
            have hnm := hid (names_t _ hb.out.is)
            unfold ptr at hnm
            go_wp2_with fail
            refine hnm.out.mono ?_
            rintro e w6 ⟨na, nc, rfl, hb6⟩
            have h6 := hid (hb.out.below hb6)
            clear hb6
            go_wp2_with fail
            refine (truncate_t _ h6.out.is [97] (by decide) 0 (by decide) (trunc_none [])).mono ?_
            rintro e w7 ⟨rfl, g7, s7, h7⟩
            have L7 := hid (h6.out.low.trans (s7.low h6.out.is))
            go_wp2
            go_ret
            exact ⟨rfl, L7.out⟩
          · have hpos := List.length_pos_iff.2 h0
            have hz0 : ((l.length : Int) == 0) = false := by simp; omega
            rw [Z_O l h0] at hb
            generalize l.flatten = bs at hb hfl ⊢
            go_wp2_with fail
            refine (read_t _ hb.out.is [97] (by decide) (read_O [97] bs l.length)).mono ?_
            rintro e w6 ⟨ra, rc, rfl, hr6, hb6⟩
            have h6 := hid (hb.out.below hb6)
            have cv1 := conv_str (isB_row hr6)
            have cv2 := conv_str (isB_row h6.out.row)
            unfold str at cv1 cv2
            clear hb6 hr6
            obtain ⟨ct, hct, ect⟩ := mod_var a1 bs.length (by omega)
            replace ect := hid ect
            go_wp2_with fail
            rw [ect.out]
            refine (truncate_t _ h6.out.is [97] (by decide) (ct : Int) (by show l.length < _; omega) (trunc_O bs l.length ct hct)).mono ?_
            rintro e w7 ⟨rfl, g7, s7, h7⟩
            have b7 := hid (h6.out.step s7 h7)
            clear s7 h7 h6 cv1 cv2
            go_wp2_with fail
            refine (rename_t _ b7.out.is [97] [98] (by decide) (by decide) (by show l.length + 1 < _; omega) (rename_O (bs.take ct) (l.length + 1))).mono ?_
            rintro e w8 ⟨rfl, g8, s8, h8⟩
            have b8 := hid (b7.out.step s8 h8)
            clear s8 h8 b7
            go_wp2_with fail
            refine (read_t _ b8.out.is [98] (by decide) (read_O [98] (bs.take ct) (l.length + 1 + 1))).mono ?_
            rintro e w9 ⟨ra9, rc9, rfl, hr9, hb9⟩
            have b9 := hid (b8.out.below hb9)
            replace hr9 := hid hr9
            clear hb9 b8
            go_wp2_with fail
            refine (read_t _ b9.out.is [97] (by decide) (read_not (l.length + 1 + 1) (bs.take ct))).mono ?_
            rintro e w10 ⟨ra10, rc10, rfl, _, hb10⟩
            have b10 := hid (b9.out.below hb10)
            have hr10 := ownsRow_block hr9.out fun k hk => hb10.block k (hr9.out.lt k hk).2
            have e9 : (bs.take ct).length = ct := by simp; omega
            have cv1 : ∀ q, (convert 30 9 (.slice ra9 ct rc9)).run Try.prog (w10.drewN q) = .ok (.string ⟨(bs.take ct).toArray⟩) (w10.drewN q) := fun q => by
              have h := conv_str (w := w10.drewN q) (isB_row hr10)
              rw [e9] at h
              exact h
            have cv2 : ∀ q, (convert 30 9 (.slice a ct c)).run Try.prog (w10.drewN q) = .ok (.string ⟨(bs.take ct).toArray⟩) (w10.drewN q) := fun q => conv_str (w := w10.drewN q) (IsB.take (isB_row b10.out.row) ct hct)
            have hac : Hid (∀ q, Calls Try.prog 23 #[.pointer (some ⟨sb, 0, none⟩)] (w10.drewN q) fun e w' => e = .returned (.int .i64 ((l.length : Int) + 2)) ∧ w' = w10.drewN q) := fun q => by
              have h := acts_t (w10.drewN q) (b10.out.is.below (drawn_below w10 q))
              rw [show (((O [98] (bs.take ct) (l.length + 1 + 1)).acts : Nat) : Int) = (l.length : Int) + 2 by show ((l.length + 1 + 1 : Nat) : Int) = _; omega] at h
              exact h
            have hcap : bs.length ≤ c ∧ c ≤ 9223372036854775807 := by
              rcases row_form b10.out.row with ⟨e1, e2⟩ | ⟨gg, cc, e1, e2, e3⟩
              · subst e2; cases e1; simp
              · cases e1; unfold maxLen at e3; omega
            have hct' : (ct : Int) ≤ (bs.length : Int) := by omega
            obtain ⟨hcap1, hcap2⟩ := hcap
            clear hr9 hr10 hb10 b9
            replace e9 := hid e9
            generalize (bs.take ct) = bt at *
            go_wp2
            go_quiet ((go_at_call 23; exact Calls.quiet_of_same (hac.out _)))
            go_wp2
            go_ret
            exact ⟨rfl, by exact undrewN b10.out.low _⟩
end filesPieces
end Go.Proofs.Ytinnegkkfaaceaa
