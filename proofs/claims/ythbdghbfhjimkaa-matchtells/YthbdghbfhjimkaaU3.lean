/- Contracts of mayValue, sign, together, May. -/
import Derived.Test.YthbdghbfhjimkaaU2
import Derived.Test.YthbdghbfhjimkaaV1
namespace Go.Proofs.Ythbdghbfhjimkaa
open Go.RowKit Go.Shelf Go.Maps

set_option maxHeartbeats 400000 in
theorem mayVal_any (s : Tx) (w : World) (hs : s.length ≤ 9223372036854775807) : Calls Try.prog 25 #[str s] w fun e w' => e = .returned (.bool (mayV0 s)) ∧ w' = w := by
  have hm := hid (mayValue_any s w hs)
  have hl : Hid (mayV0 s = (s.isEmpty || mayV s)) := mayV0_or s
  generalize mayV0 s = b at *
  cases s with
  | nil =>
    have e := hl.out
    simp at e
    subst e
    clear hl hm
    unfold str
    go_enter Try.func25, Try.ntmps25
    go_wp2
    go_ret
    exact ⟨rfl, rfl⟩
  | cons c t =>
    have e := hl.out
    simp only [List.isEmpty_cons, Bool.false_or] at e
    rw [← e] at hm
    clear hl e
    have hne : (c :: t == []) = false := rfl
    unfold str at *
    generalize c :: t = s at *
    go_enter Try.func25, Try.ntmps25
    go_wp2_with (go_at_call 45; refine hm.out.mono ?_; rintro e w' ⟨rfl, rfl⟩)
    go_ret
    exact ⟨rfl, rfl⟩
set_option maxHeartbeats 400000 in
theorem sign_any (o : UInt8) (w : World) : Calls Try.prog 29 #[.int .u8 (o.toNat : Int)] w fun e w' => e = .returned (str (opS o)) ∧ w' = w := by
  have hl : Hid (opS o = if o = 1 then [33, 61] else if o = 2 then [94, 61] else [61]) := rfl
  generalize opS o = z at *
  by_cases h1 : o = 1
  · subst h1
    have e := hl.out
    rw [if_pos rfl] at e
    subst e
    unfold str
    go_enter Try.func29, Try.ntmps29
    go_wp2
    go_ret
    exact ⟨rfl, rfl⟩
  · rw [if_neg h1] at hl
    by_cases h2 : o = 2
    · subst h2
      have e := hl.out
      rw [if_pos rfl] at e
      subst e
      unfold str
      go_enter Try.func29, Try.ntmps29
      go_wp2
      go_ret
      exact ⟨rfl, rfl⟩
    · rw [if_neg h2] at hl
      have e := hl.out
      subst e
      have t1 : ((o.toNat : Int) == 1) = false := by
        simp only [beq_eq_false_iff_ne, ne_eq]
        exact fun e => h1 (UInt8.toNat_inj.1 (show o.toNat = 1 by omega))
      have t2 : ((o.toNat : Int) == 2) = false := by
        simp only [beq_eq_false_iff_ne, ne_eq]
        exact fun e => h2 (UInt8.toNat_inj.1 (show o.toNat = 2 by omega))
      clear h1 h2 hl
      unfold str
      go_enter Try.func29, Try.ntmps29
      go_wp2
      go_ret
      exact ⟨rfl, rfl⟩
theorem join3 (x y z : Tx) : Lib.join [x, y, z] [] = x ++ (y ++ z) := by
  simp [Lib.join_cons, Lib.joinTail]
set_option maxHeartbeats 400000 in
theorem together_any (x y z : Tx) (w : World) (hl : (x ++ (y ++ z)).length ≤ 140737488355328) (b : Nat) (hb : b < w.heap.size) (h0 : w.cell? ⟨b, 0, none⟩ = some (.string ⟨x.toArray⟩)) (h1 : w.cell? ⟨b, 1, none⟩ = some (.string ⟨y.toArray⟩)) (h2 : w.cell? ⟨b, 2, none⟩ = some (.string ⟨z.toArray⟩)) :
    Calls Try.prog 28 #[.slice (some ⟨b, 0, none⟩) 3 3] w fun e w' => e = .returned (str (x ++ (y ++ z))) ∧ Below w.heap.size w w' := by
  have hj := hid (Try.strings_Join b 0 3 [⟨x.toArray⟩, ⟨y.toArray⟩, ⟨z.toArray⟩] ⟨#[]⟩ w (fun j u hu => by
    match j, hu with
    | 0, hu => cases hu; exact h0
    | 1, hu => cases hu; exact h1
    | 2, hu => cases hu; exact h2
    | _ + 3, hu => cases hu) hb (by simp) (by simp) (by
      show (Lib.join [x, y, z] []).length ≤ _
      rw [join3]
      exact hl))
  have e : Hid (Lib.join (([⟨x.toArray⟩, ⟨y.toArray⟩, ⟨z.toArray⟩] : List ByteArray).map (·.data.toList)) (⟨#[]⟩ : ByteArray).data.toList = x ++ (y ++ z)) := join3 x y z
  rw [e.out] at hj
  unfold str
  clear e h0 h1 h2
  go_enter Try.func28, Try.ntmps28
  go_wp2_with (go_at_call 31; refine hj.out.mono ?_; rintro e w' ⟨rfl, b8⟩)
  go_ret
  exact ⟨rfl, b8⟩
theorem together_new (x y z : Tx) (w : World) (hl : (x ++ (y ++ z)).length ≤ 140737488355328) (t : TypeId) :
    Calls Try.prog 28 #[.slice (some ⟨w.heap.size, 0, none⟩) 3 3] (w.alloc (.cells #[.string ⟨x.toArray⟩, .string ⟨y.toArray⟩, .string ⟨z.toArray⟩] t)) fun e w' => e = .returned (str (x ++ (y ++ z))) ∧ Below w.heap.size w w' := by
  have hn := new_block w (.cells #[.string ⟨x.toArray⟩, .string ⟨y.toArray⟩, .string ⟨z.toArray⟩] t)
  refine (together_any x y z (w.alloc (.cells #[.string ⟨x.toArray⟩, .string ⟨y.toArray⟩, .string ⟨z.toArray⟩] t)) hl w.heap.size (by simp) (by rw [cell_of hn]; rfl) (by rw [cell_of hn]; rfl) (by rw [cell_of hn]; rfl)).mono ?_
  rintro e w' ⟨rfl, b⟩
  exact ⟨rfl, low' (alloc_below _ _) b⟩
theorem may_false {m : List Mt} {x : Mt} (h : x ∈ m) (hx : mayM1 x = false) : Hid (false = mayM m) := by
  unfold Hid
  symm
  cases hm : mayM m
  · rfl
  · rw [(mayM_iff.1 hm).2 x h] at hx
    cases hx
set_option maxRecDepth 100000 in
set_option maxHeartbeats 4000000 in
theorem mmay_any (v : Value) (m : List Mt) (w : World) (h : IsMs w v m) : Calls Try.prog 12 #[v] w fun e w' => e = .returned (.bool (mayM m)) ∧ Below w.heap.size w w' := by
  obtain ⟨a, c, rfl⟩ := h.slice
  obtain ⟨-, hb⟩ := h.bound
  replace h := hid h
  by_cases h6 : 6 < m.length
  · have e : Hid (false = mayM m) := by
      unfold Hid mayM
      rw [decide_eq_false (by omega : ¬ m.length ≤ 6)]
      simp
    have h6' : (6 : Int) < (m.length : Int) := by omega
    go_enter Try.func12, Try.ntmps12
    go_wp2
    go_ret
    exact ⟨ret_bool e.out, Below.refl _ _⟩
  have h6' : ¬ (6 : Int) < (m.length : Int) := by omega
  go_enter Try.func12, Try.ntmps12
  go_wp2_with fail
  refine (questions_any w).mono ?_
  rintro e w0 ⟨b, rfl, hq, b0⟩
  replace hq := hid hq
  have B0 := hid b0
  clear b0
  go_wp2
  go_loopw [12] (fun iv wr => ∃ j : Nat, j ≤ m.length ∧ iv = .int .i64 j ∧ Hid (∀ i x, i < j → m[i]? = some x → mayM1 x = true) ∧ Hid (QsAt wr b) ∧ Hid (Below w.heap.size w wr)) (fun iv _ => m.length - (intOf iv).toNat)
  case atStart => exact ⟨0, by omega, rfl, (fun i x hi => by omega), hq.out, B0.out⟩
  case round =>
    obtain ⟨j, hj, rfl, hp, hQ, hB⟩ := hrel
    clear hq B0
    obtain ⟨V, rfl⟩ : ∃ V : World, V = wr := ⟨_, rfl⟩
    by_cases hlt : j < m.length
    · have hlt' : (j : Int) < (m.length : Int) := by omega
      obtain ⟨bm, off, rfl, hc⟩ := (h.out.below hB.out).at hlt
      obtain ⟨⟨xn, xo, xv⟩, hx⟩ : ∃ x, m[j]? = some x := ⟨_, List.getElem?_eq_getElem hlt⟩
      obtain ⟨c0, c1, c2⟩ := hc j _ hx
      have hblk := World.block_lt_of_cell? V _ c0
      obtain ⟨m0, m1⟩ := h.out.mid hx
      simp only at c0 c1 c2 hblk m0 m1
      have bV := alloc_below V (.cells #[.string ⟨xn.toArray⟩, .int .u8 (xo.toNat : Int), .string ⟨xv.toArray⟩] 37)
      have hQ1 := look_at (hQ.out.below bV) xo
      have hend : Hid (QsAt (V.alloc (.cells #[.string ⟨xn.toArray⟩, .int .u8 (xo.toNat : Int), .string ⟨xv.toArray⟩] 37)) b ∧ Below w.heap.size w (V.alloc (.cells #[.string ⟨xn.toArray⟩, .int .u8 (xo.toNat : Int), .string ⟨xv.toArray⟩] 37))) := ⟨hQ.out.below bV, low' hB.out bV⟩
      have hnb := new_block V (.cells #[.string ⟨xn.toArray⟩, .int .u8 (xo.toNat : Int), .string ⟨xv.toArray⟩] 37)
      have g0 := cell_of hnb 0
      have g1 := cell_of hnb 1
      have g2 := cell_of hnb 2
      have hyes : mayM1 (xn, xo, xv) = true → Hid (∀ i x, i < j + 1 → m[i]? = some x → mayM1 x = true) := fun hd i x hi hx' => by
        by_cases e : i = j
        · subst e
          rw [hx] at hx'
          cases hx'
          exact hd
        · exact hp.out i x (by omega) hx'
      have hno : mayM1 (xn, xo, xv) = false → _ := fun hd => may_false (List.mem_of_getElem? hx) hd
      have hnew : mayM1 (xn, xo, xv) = (decide (xo.toNat ≤ 2) && mayN xn && mayV0 xv) := rfl
      rw [hnew] at hyes hno
      replace hyes := hid hyes
      replace hno := hid hno
      have hn := hid (fun w => mayName_any xn w m0)
      have hv := hid (fun w => mayVal_any xv w m1)
      unfold str opv at *
      clear hp hc hx hnew hnb bV
      by_cases ho : xo.toNat ≤ 2
      · obtain ⟨k, hk, -, -⟩ := ask_any ho
        rw [hk] at hQ1
        have heq := eq_fn k
        rw [decide_eq_true ho, Bool.true_and] at hyes hno
        cases en : mayN xn
        · rw [en] at hn hno
          have e := hno.out rfl
          clear hyes hno hk ho hQ hB hv en
          go_wp2_with (first | (go_at_call 24; refine (hn.out _).mono ?_; rintro e w' ⟨rfl, hw'⟩; have hw2 := hw'.symm; subst hw2) | (go_at_call 25; refine (hv.out _).mono ?_; rintro e w' ⟨rfl, hw'⟩; have hw2 := hw'.symm; subst hw2))
          go_ret
          exact ⟨ret_bool e.out, hend.out.2⟩
        · rw [en, Bool.true_and] at hyes hno
          rw [en] at hn
          cases ev : mayV0 xv
          · rw [ev] at hv hno
            have e := hno.out rfl
            clear hyes hno hk ho hQ hB en ev
            go_wp2_with (first | (go_at_call 24; refine (hn.out _).mono ?_; rintro e w' ⟨rfl, hw'⟩; have hw2 := hw'.symm; subst hw2) | (go_at_call 25; refine (hv.out _).mono ?_; rintro e w' ⟨rfl, hw'⟩; have hw2 := hw'.symm; subst hw2))
            go_ret
            exact ⟨ret_bool e.out, hend.out.2⟩
          · rw [ev] at hv hyes
            have e := hyes.out rfl
            clear hyes hno hk ho hQ hB en ev
            go_wp2_with (first | (go_at_call 24; refine (hn.out _).mono ?_; rintro e w' ⟨rfl, hw'⟩; have hw2 := hw'.symm; subst hw2) | (go_at_call 25; refine (hv.out _).mono ?_; rintro e w' ⟨rfl, hw'⟩; have hw2 := hw'.symm; subst hw2))
            exact ⟨⟨j + 1, by omega, by go_num, e, hend.out.1, hend.out.2⟩, by simp [intOf]; omega⟩
      · obtain ⟨hf, -⟩ := ask_none ho
        rw [hf] at hQ1
        rw [decide_eq_false ho] at hno
        have e := hno.out rfl
        have heq := eq_nil
        clear hyes hno hf ho hQ hB hn hv
        go_wp2
        go_ret
        exact ⟨ret_bool e.out, hend.out.2⟩
    · have hlt' : ¬ (j : Int) < (m.length : Int) := by omega
      obtain rfl : j = m.length := by omega
      have e : Hid (true = mayM m) := by
        unfold Hid
        symm
        rw [mayM_iff]
        refine ⟨by omega, fun x hx => ?_⟩
        obtain ⟨i, hi⟩ := List.mem_iff_getElem?.1 hx
        exact hp.out i x (List.getElem?_eq_some_iff.1 hi).1 hi
      clear hp
      go_wp2
      go_ret
      exact ⟨ret_bool e.out, hB.out⟩
end Go.Proofs.Ythbdghbfhjimkaa
