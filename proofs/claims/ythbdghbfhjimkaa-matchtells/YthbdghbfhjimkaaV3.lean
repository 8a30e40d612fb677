/- Contract of Parse. -/
import Derived.Test.YthbdghbfhjimkaaV2
namespace Go.Proofs.Ythbdghbfhjimkaa
open Go.RowKit Go.Shelf

/-- what Parse tells. -/
def ParsePost (w : World) (R : Option (List Lb × Tx)) (e : Ending) (w' : World) : Prop :=
  Below w.heap.size w w' ∧ match R with
    | none => e = .returned (.tuple #[.slice none 0 0, .string ⟨#[]⟩, .int .i64 70])
    | some (l, t) => ∃ v, e = .returned (.tuple #[v, .string ⟨t.toArray⟩, .int .i64 0]) ∧ OwnL w.heap.size w' v l
theorem prefix_any (s : Tx) (c : UInt8) (w : World) : Calls Try.prog 37 #[str s, .string ⟨#[c]⟩] w fun e w' => e = .returned (.tuple #[str (Lib.trimPrefix s [c]), .bool (Lib.hasPrefix s [c])]) ∧ w' = w := by
  have := Try.strings_CutPrefix ⟨s.toArray⟩ ⟨#[c]⟩ w
  unfold str
  simpa using this
theorem pre_yes (c : UInt8) (t : Tx) : Lib.trimPrefix (c :: t) [c] = t ∧ Lib.hasPrefix (c :: t) [c] = true := by
  simp [Lib.trimPrefix, Lib.hasPrefix]
theorem pre_no (c d : UInt8) (t : Tx) (h : d ≠ c) : Lib.trimPrefix (d :: t) [c] = d :: t ∧ Lib.hasPrefix (d :: t) [c] = false := by
  have h2 : ¬ c = d := fun e => h e.symm
  have h1 : ([c] : Tx).isPrefixOf (d :: t) = false := by simp [List.isPrefixOf, h2]
  simp [Lib.trimPrefix, Lib.hasPrefix, h1]
theorem pre_nil (c : UInt8) : Lib.trimPrefix [] [c] = [] ∧ Lib.hasPrefix [] [c] = false := by
  simp [Lib.trimPrefix, Lib.hasPrefix]
theorem post_none {w w' : World} (h : Below w.heap.size w w') : ParsePost w none (.returned (.tuple #[.slice none 0 0, .string ⟨#[]⟩, .int .i64 70])) w' := ⟨h, rfl⟩
theorem step_none {f : Nat} {l : List Lb} {s : Tx} (h : takeL s = none) : goP (f + 1) l s = none := by rw [goP, h]
theorem step_end {f : Nat} {l : List Lb} {s : Tx} {x : Lb} (h : takeL s = some (x, [])) : goP (f + 1) l s = none := by rw [goP, h]
theorem step_may {f : Nat} {l : List Lb} {s t : Tx} {x : Lb} {c : UInt8} (h : takeL s = some (x, c :: t)) (hm : mayL (l ++ [x]) = false) : goP (f + 1) l s = none := by
  rw [goP, h]
  simp only [hm]
  rfl
theorem step_on {f : Nat} {l : List Lb} {s t : Tx} {x : Lb} {c : UInt8} (h : takeL s = some (x, c :: t)) (hm : mayL (l ++ [x]) = true) : goP (f + 1) l s = if c = 44 then goP f (l ++ [x]) t else if c = 125 then some (l ++ [x], t) else none := by
  rw [goP, h]
  simp only [hm, if_true]
def lenOfText : Value → Nat | .string x => x.data.size | _ => 0
set_option maxHeartbeats 8000000 in
theorem parse_main (r : Tx) (w : World) (hr : r.length ≤ 35184372088832) (hp1 : Lib.trimPrefix r [125] = r) (hp2 : Lib.hasPrefix r [125] = false) : Calls Try.prog 66 #[str (123 :: r)] w (ParsePost w (goP (r.length + 1) [] r)) := by
  have h1 := hid (prefix_any (123 :: r) 123)
  have h2 := hid (prefix_any r 125)
  rw [(pre_yes 123 r).1, (pre_yes 123 r).2] at h1
  rw [hp1, hp2] at h2
  clear hp1 hp2
  have htl := hid takeLabel_any
  have hbox := hid box_new
  have hmay := hid may_any
  generalize hR : goP (r.length + 1) [] r = R
  replace hR := hid hR
  have hrl : r.length < r.length + 1 := by omega
  generalize hs : (123 :: r : Tx) = s at *
  clear hs
  unfold str at *
  go_enter Try.func66, Try.ntmps66
  go_wp2
  go_step3
  go_wp2_with (first | (go_at_call 37; refine (h1.out _).mono ?_; rintro e w' ⟨rfl, hw'⟩; have hw2 := hw'.symm; subst hw2; clear h1) | (go_at_call 37; refine (h2.out _).mono ?_; rintro e w' ⟨rfl, hw'⟩; have hw2 := hw'.symm; subst hw2))
  go_step3
  go_wp2
  clear h2
  go_loopw [2, 3, 5] (fun lv rv kv wr => ∃ (l : List Lb) (t : Tx) (f : Nat) (k : Bool), rv = .string ⟨t.toArray⟩ ∧ kv = .bool k ∧ t.length ≤ 35184372088832 ∧ t.length < f ∧ l.length ≤ 4 ∧ Hid (goP f l t = R) ∧ Hid (OwnL w.heap.size wr lv l) ∧ Hid (Below w.heap.size w wr)) (fun _ rv _ _ => lenOfText rv)
  case atStart => exact ⟨[], r, r.length + 1, _, rfl, rfl, hr, hrl, by simp, hR, ownL_nil _ _, Below.refl _ _⟩
  case round =>
    obtain ⟨l, t, f, k, rfl, rfl, htl5, hf, hl4, hg, ho, hB⟩ := hrel
    clear hR hrl hr
    obtain ⟨V, rfl⟩ : ∃ V : World, V = wr := ⟨_, rfl⟩
    obtain ⟨g, rfl⟩ : ∃ g, f = g + 1 := ⟨f - 1, by omega⟩
    obtain ⟨lv, lc, rfl⟩ := ho.out.slice
    have hX : ∀ (W : World) (xn xv : Tx), Below (V.alloc (.cells #[.string ⟨#[]⟩, .string ⟨#[]⟩] 44)).heap.size (V.alloc (.cells #[.string ⟨#[]⟩, .string ⟨#[]⟩] 44)) W → xn.length ≤ 35184372088832 → xv.length ≤ 35184372088832 →
        ∃ a' c' V2, (∀ ty, (Builtin.append_ #[23, 23] ty #[.slice lv l.length lc, .slice (some ⟨W.heap.size, 0, none⟩) 1 1]).run Try.prog (((W.setCell ⟨V.heap.size, 0, none⟩ (.string ⟨xn.toArray⟩)).setCell ⟨V.heap.size, 1, none⟩ (.string ⟨xv.toArray⟩)).alloc (.cells #[.string ⟨xn.toArray⟩, .string ⟨xv.toArray⟩] 44)) = .ok (.slice a' (l.length + 1) c') V2) ∧ Hid (OwnL w.heap.size V2 (.slice a' (l.length + 1) c') (l ++ [(xn, xv)])) ∧ Hid (Below w.heap.size w V2) := fun W xn xv hW h1 h2 => by
      have hoW := (ho.out.below (alloc_below V (.cells #[.string ⟨#[]⟩, .string ⟨#[]⟩] 44))).below hW
      have hoX : OwnL w.heap.size ((W.setCell ⟨V.heap.size, 0, none⟩ (.string ⟨xn.toArray⟩)).setCell ⟨V.heap.size, 1, none⟩ (.string ⟨xv.toArray⟩)) (.slice lv l.length lc) l := hoW.keep fun b hb => by
        have := (ho.out.lt hb).2
        rw [heap_set _ _ _ _ _ (by omega), heap_set _ _ _ _ _ (by omega)]
      have hBX : Below w.heap.size w ((W.setCell ⟨V.heap.size, 0, none⟩ (.string ⟨xn.toArray⟩)).setCell ⟨V.heap.size, 1, none⟩ (.string ⟨xv.toArray⟩)) := below_set2 (low' (low' hB.out (alloc_below V (.cells #[.string ⟨#[]⟩, .string ⟨#[]⟩] 44))) hW) hB.out.size
      obtain ⟨a', c', V2, hrun, h3, h4⟩ := pushL_run hoX xn xv (by unfold maxLen; omega) (by unfold maxLen; omega) (by omega) hBX.size
      refine ⟨a', c', V2, ?_, h3, hBX.trans h4⟩
      rw [size_set, size_set] at hrun
      exact hrun
    replace hX := hid hX
    clear ho
    go_wp2_with fail
    refine (htl.out t _ htl5).mono ?_
    cases ht : takeL t with
    | none =>
      rintro e w1 ⟨rfl, b5⟩
      obtain ⟨q0, q1, q2, q3⟩ := hbox.out V w1 b5
      obtain ⟨a', c', V2, hrun, ho2, hB2⟩ := hX.out w1 [] [] b5 (by simp) (by simp)
      have hR2 : Hid (none = R) := (step_none ht).symm.trans hg.out
      clear b5 hX hg ht
      simp only [labelV, str] at *
      go_wp2_with (at_builtin; refine wpList_append_run _ rfl _ _ 23 rfl _ _ _ _ rfl rfl hrun ?_)
      rw [Exit.noGoto_ret]
      go_ret3
      rw [← hR2.out]
      exact post_none hB2.out
    | some p =>
      obtain ⟨⟨xn, xv⟩, u⟩ := p
      have hlen := takeL_len ht
      simp only at hlen
      have hxl : xn.length ≤ 35184372088832 ∧ xv.length ≤ 35184372088832 := by omega
      rintro e w1 ⟨rfl, b5⟩
      obtain ⟨q0, q1, q2, q3⟩ := hbox.out V w1 b5
      obtain ⟨a', c', V2, hrun, ho2, hB2⟩ := hX.out w1 xn xv b5 hxl.1 hxl.2
      have ho2l := ho2.out.isL
      have hm2 := hid (hmay.out (.slice a' (l.length + 1) c') (l ++ [(xn, xv)]) V2 ho2l)
      clear b5 hX ho2l
      cases u with
      | nil =>
        have hR2 : Hid (none = R) := (step_end ht).symm.trans hg.out
        clear hg ht hlen hxl hm2
        simp only [labelV, str] at *
        go_wp2_with (at_builtin; refine wpList_append_run _ rfl _ _ 23 rfl _ _ _ _ rfl rfl hrun ?_)
        rw [Exit.noGoto_ret]
        go_ret3
        rw [← hR2.out]
        exact post_none hB2.out
      | cons c u =>
        simp only [List.length_cons] at hlen
        cases hm : mayL (l ++ [(xn, xv)]) with
        | false =>
          have hR2 : Hid (none = R) := (step_may ht hm).symm.trans hg.out
          rw [hm] at hm2
          clear hg ht hlen hxl hm
          simp only [labelV, str] at *
          go_wp2_with (first | (at_builtin; refine wpList_append_run _ rfl _ _ 23 rfl _ _ _ _ rfl rfl hrun ?_) | (go_at_call 74; refine hm2.out.mono ?_; rintro e w3 ⟨rfl, b7⟩; replace b7 := hid (low' hB2.out b7)))
          rw [Exit.noGoto_ret]
          go_ret3
          rw [← hR2.out]
          exact post_none b7.out
        | true =>
          have hstep := (step_on (f := g) ht hm).symm.trans hg.out
          have hl42 := mayL_len hm
          rw [List.length_append, List.length_singleton] at hl42
          rw [hm] at hm2
          have hget : (⟨(c :: u).toArray⟩ : ByteArray)[0]'(by simp [ByteArray.size]) = c := rfl
          have htt : (⟨(c :: u).toArray⟩ : ByteArray).extract 1 (u.length + 1) = ⟨u.toArray⟩ := by
            have := ext_str (c :: u) 1 (u.length + 1)
            simpa using this
          have hlu : u.length ≤ 35184372088832 ∧ u.length < g ∧ u.length < t.length := by omega
          have hol := fun W (hW : Below V2.heap.size V2 W) => hid (ho2.out.below hW)
          replace hol := hid hol
          by_cases h44 : c.toNat = 44
          · have t1 : ((c.toNat : Int) == 44) = true := by simp; omega
            have hc : c = 44 := UInt8.toNat_inj.1 h44
            rw [if_pos hc] at hstep
            replace hstep := hid hstep
            clear hg ht hlen hxl hm hc h44 ho2 hf
            simp only [labelV, str] at *
            go_wp2_with (first | (at_builtin; refine wpList_append_run _ rfl _ _ 23 rfl _ _ _ _ rfl rfl hrun ?_) | (go_at_call 74; refine hm2.out.mono ?_; rintro e w3 ⟨rfl, b7⟩; replace hol := hol.out w3 b7; replace b7 := hid (low' hB2.out b7)))
            exact ⟨⟨l ++ [(xn, xv)], u, g, true, rfl, rfl, hlu.1, hlu.2.1, by simp; omega, hstep, hol, b7⟩, by simp [lenOfText]; omega⟩
          · have t1 : ((c.toNat : Int) == 44) = false := by simp; omega
            have hc : ¬ c = 44 := by rintro rfl; exact h44 rfl
            rw [if_neg hc] at hstep
            by_cases h125 : c.toNat = 125
            · have t2 : ((c.toNat : Int) == 125) = true := by simp; omega
              have hc2 : c = 125 := UInt8.toNat_inj.1 h125
              rw [if_pos hc2] at hstep
              replace hstep := hid hstep
              clear hg ht hlen hxl hm hc h44 ho2 hf hc2 h125
              simp only [labelV, str] at *
              go_wp2_with (first | (at_builtin; refine wpList_append_run _ rfl _ _ 23 rfl _ _ _ _ rfl rfl hrun ?_) | (go_at_call 74; refine hm2.out.mono ?_; rintro e w3 ⟨rfl, b7⟩; replace hol := hol.out w3 b7; replace b7 := hid (low' hB2.out b7)))
              rw [Exit.noGoto_ret]
              go_ret3
              rw [← hstep.out]
              exact ⟨b7.out, _, rfl, hol.out⟩
            · have t2 : ((c.toNat : Int) == 125) = false := by simp; omega
              have hc2 : ¬ c = 125 := by rintro rfl; exact h125 rfl
              rw [if_neg hc2] at hstep
              replace hstep := hid hstep
              clear hg ht hlen hxl hm hc h44 ho2 hf hc2 h125
              simp only [labelV, str] at *
              go_wp2_with (first | (at_builtin; refine wpList_append_run _ rfl _ _ 23 rfl _ _ _ _ rfl rfl hrun ?_) | (go_at_call 74; refine hm2.out.mono ?_; rintro e w3 ⟨rfl, b7⟩; replace hol := hol.out w3 b7; replace b7 := hid (low' hB2.out b7)))
              rw [Exit.noGoto_ret]
              go_ret3
              rw [← hstep.out]
              exact post_none b7.out
set_option maxHeartbeats 1000000 in
theorem parse_any (s : Tx) (w : World) (hs : s.length ≤ 35184372088832) : Calls Try.prog 66 #[str s] w (ParsePost w (parseP s)) := by
  have bad : Lib.trimPrefix s [123] = s → Lib.hasPrefix s [123] = false → parseP s = none → Calls Try.prog 66 #[str s] w (ParsePost w (parseP s)) := fun e1 e2 e3 => by
    have h1 := hid (prefix_any s 123)
    rw [e1, e2] at h1
    rw [e3]
    clear e1 e2 e3
    unfold str at *
    go_enter Try.func66, Try.ntmps66
    go_wp2
    go_step3
    go_wp2_with (go_at_call 37; refine (h1.out _).mono ?_; rintro e w' ⟨rfl, hw'⟩; have hw2 := hw'.symm; subst hw2)
    rw [Exit.noGoto_ret]
    go_ret3
    exact post_none (Below.refl _ _)
  cases s with
  | nil => exact bad (pre_nil 123).1 (pre_nil 123).2 rfl
  | cons c r =>
    by_cases hc : c = 123
    · subst hc
      have hrl : r.length ≤ 35184372088832 := by simp at hs; omega
      cases r with
      | nil =>
        have := parse_main [] w (by simp) (pre_nil 125).1 (pre_nil 125).2
        rw [parse_one]
        rw [goP_nil] at this
        exact this
      | cons d t =>
        by_cases hd : d = 125
        · subst hd
          have h1 := hid (prefix_any (123 :: 125 :: t) 123)
          have h2 := hid (prefix_any (125 :: t) 125)
          rw [(pre_yes 123 _).1, (pre_yes 123 _).2] at h1
          rw [(pre_yes 125 t).1, (pre_yes 125 t).2] at h2
          rw [parse_cons, if_pos rfl]
          generalize hz : (123 :: 125 :: t : Tx) = z at *
          generalize hy : (125 :: t : Tx) = y at *
          clear hz hy hs
          unfold str at *
          go_enter Try.func66, Try.ntmps66
          go_wp2
          go_step3
          go_wp2_with (first | (go_at_call 37; refine (h1.out _).mono ?_; rintro e w' ⟨rfl, hw'⟩; have hw2 := hw'.symm; subst hw2; clear h1) | (go_at_call 37; refine (h2.out _).mono ?_; rintro e w' ⟨rfl, hw'⟩; have hw2 := hw'.symm; subst hw2))
          rw [Exit.noGoto_ret]
          go_ret3
          exact ⟨Below.refl _ _, _, rfl, ownL_nil _ _⟩
        · have := parse_main (d :: t) w hrl (pre_no 125 d t hd).1 (pre_no 125 d t hd).2
          rw [parse_cons, if_neg hd]
          exact this
    · exact bad (pre_no 123 c r hc).1 (pre_no 123 c r hc).2 (parse_no r hc)
end Go.Proofs.Ythbdghbfhjimkaa
