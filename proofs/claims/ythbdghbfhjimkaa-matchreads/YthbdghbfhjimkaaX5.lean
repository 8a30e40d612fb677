/- Contract of the document's Parse. -/
import Derived.Test.YthbdghbfhjimkaaX4
import Derived.Test.YthbdghbfhjimkaaU10
namespace Go.Proofs.Ythbdghbfhjimkaa
open Go.RowKit Go.Shelf

theorem takeR_len {s : Tx} {x : Mt} {t : Tx} (h : takeR s = some (x, t)) : t.length + x.1.length + x.2.2.length + 3 ≤ s.length := by
  have := (itemM_len x).1
  rw [takeR_inv h, List.length_append]
  omega
theorem takeR_rest {s : Tx} {k : Nat} {x : Mt} {t : Tx} (hk : k ≤ s.length) (h : takeR (s.drop k) = some (x, t)) : t = s.drop (s.length - t.length) ∧ t.length ≤ s.length - k := by
  have e := takeR_inv h
  have hl := congrArg List.length e
  rw [List.length_drop, List.length_append] at hl
  refine ⟨?_, by omega⟩
  have e2 : s = s.take k ++ (itemM x ++ t) := by rw [← e, List.take_append_drop]
  have e3 : s.length - t.length = (s.take k ++ itemM x).length := by
    rw [List.length_append, List.length_take]
    omega
  rw [e3]
  have e4 : s.drop (s.take k ++ itemM x).length = (s.take k ++ (itemM x ++ t)).drop (s.take k ++ itemM x).length := congrArg (List.drop (s.take k ++ itemM x).length) e2
  rw [e4, ← List.append_assoc, List.drop_left]
theorem goQ_none {f : Nat} {m : List Mt} {s : Tx} (h : takeR s = none) : goQ (f + 1) m s = none := by rw [goQ, h]
theorem goQ_end {f : Nat} {m : List Mt} {s : Tx} {x : Mt} (h : takeR s = some (x, [])) : goQ (f + 1) m s = none := by rw [goQ, h]
theorem goQ_on {f : Nat} {m : List Mt} {s u : Tx} {x : Mt} {c : UInt8} (h : takeR s = some (x, c :: u)) : goQ (f + 1) m s = if 6 < m.length + 1 then none else if c = 125 then (if mayM (m ++ [x]) then some (m ++ [x], u) else none) else if c = 44 then goQ f (m ++ [x]) u else none := by
  rw [goQ, h]
set_option maxRecDepth 100000 in
set_option maxHeartbeats 8000000 in
theorem rparse_main (s : Tx) (w : World) (hs : s.length ≤ 4000000000) (h2 : 2 ≤ s.length) (h123 : s.getD 0 0 = 123) (h125 : s.getD 1 0 ≠ 125) (R : Option (List Mt × Tx)) (hR : goQ 7 [] (s.drop 1) = R) : Calls Try.prog 20 #[str s] w (MPost w R) := by
  have d2 : decide ((s.length : Int) < 2) = false := by simp; omega
  have d2' : decide (s.length < 2) = false := by simp; omega
  have hget0 := get_at (s := s) (j := 0) (by omega)
  have hget1 := get_at (s := s) (j := 1) (by omega)
  rw [h123] at hget0
  obtain ⟨c1, hc1⟩ : ∃ c, c = s.getD 1 0 := ⟨_, rfl⟩
  rw [← hc1] at hget1 h125
  have t1 : ((c1.toNat : Int) == 125) = false := by
    simp only [beq_eq_false_iff_ne, ne_eq]
    exact fun e => h125 (UInt8.toNat_inj.1 (show c1.toNat = 125 by omega))
  have hl0 : (0 : Int) < (s.length : Int) := by omega
  have hl1 : (1 : Int) < (s.length : Int) := by omega
  have hl0' : 0 < s.length := by omega
  have hl1' : 1 < s.length := by omega
  have hone := hid rone_any
  have hmay := hid rmay_any
  replace hR := hid hR
  clear h123 hc1 h125
  unfold str at *
  go_enter Try.func20, Try.ntmps20
  go_wp2
  clear d2 d2' hget0 hget1 t1 hl0 hl1 hl0' hl1'
  go_loopw [5, 6] (fun mv av wr => ∃ (m : List Mt) (k : Nat), av = .int .i64 (k : Int) ∧ k ≤ s.length ∧ m.length ≤ 6 ∧ Hid (goQ (7 - m.length) m (s.drop k) = R) ∧ Hid (OwnM w.heap.size wr mv m) ∧ Hid (Below w.heap.size w wr)) (fun _ av _ => s.length - (intOf av).toNat)
  case atStart => exact ⟨[], 1, rfl, by omega, by simp, hR, ownM_nil _ _, Below.refl _ _⟩
  case round =>
    obtain ⟨m, k, rfl, hk, hm6, hg, ho, hB⟩ := hrel
    clear hR
    obtain ⟨V, rfl⟩ : ∃ V : World, V = wr := ⟨_, rfl⟩
    obtain ⟨mv, mc, rfl⟩ := ho.out.slice
    obtain ⟨f, hf⟩ : ∃ f, 7 - m.length = f + 1 := ⟨6 - m.length, by omega⟩
    rw [hf] at hg
    have e1 : (⟨s.toArray⟩ : ByteArray).extract k s.length = ⟨(s.drop k).toArray⟩ := by rw [ext_str, List.take_length]
    have b1 : (0 : Int) ≤ (k : Int) := by omega
    have b2 : (k : Int) ≤ (s.length : Int) := by omega
    have hX : ∀ (W : World) (xn : Tx) (xo : UInt8) (xv : Tx), Below V.heap.size V W → xn.length ≤ 35184372088832 → xv.length ≤ 35184372088832 →
        ∃ a' c' V2, (∀ ty, (Builtin.append_ #[22, 22] ty #[.slice mv m.length mc, .slice (some ⟨W.heap.size + 1, 0, none⟩) 1 1]).run Try.prog ((W.alloc (.cells #[.string ⟨xn.toArray⟩, .int .u8 (xo.toNat : Int), .string ⟨xv.toArray⟩] 37)).alloc (.cells #[.string ⟨xn.toArray⟩, .int .u8 (xo.toNat : Int), .string ⟨xv.toArray⟩] 37)) = .ok (.slice a' (m.length + 1) c') V2) ∧ Hid (OwnM w.heap.size V2 (.slice a' (m.length + 1) c') (m ++ [(xn, xo, xv)])) ∧ Hid (Below w.heap.size w V2) := fun W xn xo xv hW h1 h2 => by
      have bA := alloc_below W (.cells #[.string ⟨xn.toArray⟩, .int .u8 (xo.toNat : Int), .string ⟨xv.toArray⟩] 37)
      have hoX := (ho.out.below hW).below bA
      have hBX := low' (low' hB.out hW) bA
      obtain ⟨a', c', V2, hrun, h3, h4⟩ := pushM_run hoX xn xo xv (by unfold maxLen; omega) (by unfold maxLen; omega) (by omega) hBX.size
      have hsz : (W.alloc (.cells #[.string ⟨xn.toArray⟩, .int .u8 (xo.toNat : Int), .string ⟨xv.toArray⟩] 37)).heap.size = W.heap.size + 1 := by simp
      rw [hsz] at hrun
      exact ⟨a', c', V2, hrun, h3, hBX.trans h4⟩
    have hon := hid (hone.out (s.drop k) V (by simp; omega))
    replace hX := hid hX
    clear ho hone
    cases ht : takeR (s.drop k) with
    | none =>
      have hR2 : Hid (none = R) := (goQ_none ht).symm.trans hg.out
      rw [ht] at hon
      simp only [oneV, str, opv] at hon
      clear hg ht
      go_wp2_with fail
      refine hon.out.mono ?_
      rintro e w5 ⟨rfl, b5⟩
      obtain ⟨a', c', V2, hrun, ho2, hB2⟩ := hX.out w5 [] 0 [] b5 (by simp) (by simp)
      clear hX hon b5
      go_wp2_with (at_builtin; refine wpList_append_run _ rfl _ _ 22 rfl _ _ _ _ rfl rfl hrun ?_)
      go_ret3
      rw [← hR2.out]
      exact mpost_none hB2.out
    | some p =>
      obtain ⟨⟨xn, xo, xv⟩, u⟩ := p
      have hlen := takeR_len ht
      obtain ⟨hu, hul⟩ := takeR_rest hk ht
      simp only at hlen
      rw [List.length_drop] at hlen
      rw [ht] at hon
      simp only [oneV, str, opv] at hon
      have hA : k + ((s.drop k).length - u.length) = s.length - u.length := by rw [List.length_drop]; omega
      have hn0 : 0 < (s.drop k).length - u.length := by rw [List.length_drop]; omega
      have hxl : xn.length ≤ 35184372088832 ∧ xv.length ≤ 35184372088832 := by omega
      generalize (s.drop k).length - u.length = n at *
      have c1 : IntKind.i64.wrap ((k : Int) + (n : Int)) = (k : Int) + (n : Int) := by rw [IntKind.wrap_i64]; omega
      have t0 : ((n : Int) == 0) = false := by simp; omega
      cases u with
      | nil =>
        have hR2 : Hid (none = R) := (goQ_end ht).symm.trans hg.out
        simp at hA
        have d1 : decide ((s.length : Int) ≤ (k : Int) + (n : Int)) = true := by simp; omega
        have d1' : decide (s.length ≤ k + n) = true := by simp; omega
        clear hg ht hu hul hlen hA hn0
        go_wp2_with fail
        refine hon.out.mono ?_
        rintro e w5 ⟨rfl, b5⟩
        obtain ⟨a', c', V2, hrun, ho2, hB2⟩ := hX.out w5 xn xo xv b5 hxl.1 hxl.2
        clear hX hon b5
        go_wp2_with (at_builtin; refine wpList_append_run _ rfl _ _ 22 rfl _ _ _ _ rfl rfl hrun ?_)
        go_ret3
        rw [← hR2.out]
        exact mpost_none hB2.out
      | cons c u =>
        simp only [List.length_cons] at hA hul hu
        have hlt : k + n < s.length := by omega
        have hgc : s.getD (k + n) 0 = c := by
          have h3 := drop_at hlt
          rw [hA, ← hu] at h3
          injection h3 with h4 h5
          rw [← hA] at h4
          exact h4.symm
        have hgu : s.drop (k + n + 1) = u := by
          have h3 := drop_at hlt
          rw [hA, ← hu] at h3
          injection h3 with h4 h5
          rw [hA]
          exact h5.symm
        have hget := get_at hlt
        rw [hgc] at hget
        have d1 : decide ((s.length : Int) ≤ (k : Int) + (n : Int)) = false := by simp; omega
        have d1' : decide (s.length ≤ k + n) = false := by simp; omega
        have c2 : IntKind.i64.wrap ((k : Int) + (n : Int) + 1) = (k : Int) + (n : Int) + 1 := by rw [IntKind.wrap_i64]; omega
        have c3 : IntKind.i64.wrap ((k : Int) + (n : Int) + 1 - 1) = (k : Int) + (n : Int) := by rw [IntKind.wrap_i64]; omega
        have c3' : (k : Int) + (n : Int) + 1 - 1 = (k : Int) + (n : Int) := by omega
        have b3 : (0 : Int) ≤ (k : Int) + (n : Int) := by omega
        have b4 : (k : Int) + (n : Int) < (s.length : Int) := by omega
        have b6 : ((k : Int) + (n : Int)).toNat = k + n := by omega
        have hstep := (goQ_on (f := f) (m := m) ht).symm.trans hg.out
        clear hgc hu hlen hA ht hg hn0 hul
        by_cases h6 : 6 < m.length + 1
        · have d6 : decide (6 < (m.length : Int) + 1) = true := by simp; omega
          have d6' : decide (6 < m.length + 1) = true := by simp; omega
          rw [if_pos h6] at hstep
          have hR2 : Hid (none = R) := hstep
          clear hstep
          go_wp2_with fail
          refine hon.out.mono ?_
          rintro e w5 ⟨rfl, b5⟩
          obtain ⟨a', c', V2, hrun, ho2, hB2⟩ := hX.out w5 xn xo xv b5 hxl.1 hxl.2
          clear hX hon b5
          go_wp2_with (at_builtin; refine wpList_append_run _ rfl _ _ 22 rfl _ _ _ _ rfl rfl hrun ?_)
          go_ret3
          rw [← hR2.out]
          exact mpost_none hB2.out
        have d6 : decide (6 < (m.length : Int) + 1) = false := by simp; omega
        have d6' : decide (6 < m.length + 1) = false := by simp; omega
        rw [if_neg h6] at hstep
        go_wp2_with fail
        refine hon.out.mono ?_
        rintro e w5 ⟨rfl, b5⟩
        obtain ⟨a', c', V2, hrun, ho2, hB2⟩ := hX.out w5 xn xo xv b5 hxl.1 hxl.2
        clear hX hon b5
        by_cases h125 : c.toNat = 125
        · have t1 : ((c.toNat : Int) == 125) = true := by simp; omega
          rw [if_pos (UInt8.toNat_inj.1 h125)] at hstep
          replace hstep := hid hstep
          clear h125
          go_wp2_with (at_builtin; refine wpList_append_run _ rfl _ _ 22 rfl _ _ _ _ rfl rfl hrun ?_)
          have o2L := ho2.out
          have hmL : (m ++ [(xn, xo, xv)]).length = m.length + 1 := by simp
          refine (hmay.out _ (m ++ [(xn, xo, xv)]) V2 o2L.isM).mono ?_
          rintro e w7 ⟨rfl, q7, rfl⟩
          have B7 := hid (below_drewN (n := q7) hB2.out)
          have o7 := hid (o2L.below (below_drewN (n := q7) (Below.refl _ _)))
          clear o2L ho2 hB2 hmL
          generalize V2.drewN q7 = w7 at *
          cases hm : mayM (m ++ [(xn, xo, xv)]) with
          | false =>
            rw [hm] at hstep
            have hR2 : Hid (none = R) := hstep.out
            clear hstep hm
            go_wp2
            go_ret3
            rw [← hR2.out]
            exact mpost_none B7.out
          | true =>
            rw [hm, if_pos rfl] at hstep
            have e2 : (⟨s.toArray⟩ : ByteArray).extract (k + n + 1) s.length = ⟨u.toArray⟩ := by rw [ext_str, List.take_length, hgu]
            have b7 : (0 : Int) ≤ (k : Int) + (n : Int) + 1 := by omega
            have b8 : (k : Int) + (n : Int) + 1 ≤ (s.length : Int) := by omega
            have b9 : ((k : Int) + (n : Int) + 1).toNat = k + n + 1 := by omega
            clear hm
            go_wp2
            go_quiet (fail)
            have B9 := hid (below_drewN (n := nq) B7.out)
            have o9 := hid (o7.out.below (below_drewN (n := nq) (Below.refl _ _)))
            go_wp2
            go_ret3
            rw [← hstep.out]
            exact ⟨B9.out, _, rfl, by simpa using o9.out⟩
        · have t1 : ((c.toNat : Int) == 125) = false := by simp; omega
          rw [if_neg (fun e => h125 (by rw [e]; rfl))] at hstep
          by_cases h44 : c.toNat = 44
          · have t2 : ((c.toNat : Int) == 44) = true := by simp; omega
            have t2' : ((c.toNat : Int) != 44) = false := by simp; omega
            rw [if_pos (UInt8.toNat_inj.1 h44), ← hgu] at hstep
            have hg' : Hid (goQ (7 - (m ++ [(xn, xo, xv)]).length) (m ++ [(xn, xo, xv)]) (s.drop (k + n + 1)) = R) := by
              unfold Hid
              rw [← hstep]
              congr 1
              simp
              omega
            clear hstep h125 h44
            go_wp2_with (at_builtin; refine wpList_append_run _ rfl _ _ 22 rfl _ _ _ _ rfl rfl hrun ?_)
            exact ⟨⟨m ++ [(xn, xo, xv)], k + n + 1, by go_num, by omega, by simp; omega, hg', by simpa using ho2, hB2⟩, by simp [intOf]; omega⟩
          · have t2 : ((c.toNat : Int) == 44) = false := by simp; omega
            have t2' : ((c.toNat : Int) != 44) = true := by simp; omega
            rw [if_neg (fun e => h44 (by rw [e]; rfl))] at hstep
            have hR2 : Hid (none = R) := hstep
            clear hstep h125 h44
            go_wp2_with (at_builtin; refine wpList_append_run _ rfl _ _ 22 rfl _ _ _ _ rfl rfl hrun ?_)
            go_ret3
            rw [← hR2.out]
            exact mpost_none hB2.out
theorem parseQ_no0 {s : Tx} (h : s.length < 2) : parseQ s = none := by
  match s, h with
  | [], _ => rfl
  | [c], _ => rfl
theorem parseQ_noc {s : Tx} (h2 : 2 ≤ s.length) (h : s.getD 0 0 ≠ 123) : parseQ s = none := by
  match s, h2 with
  | c :: d :: t, _ =>
    unfold parseQ
    simp only
    rw [if_neg (fun e => h (by rw [e]; rfl))]
theorem parseQ_brace {s : Tx} (h2 : 2 ≤ s.length) (h : s.getD 0 0 = 123) (h1 : s.getD 1 0 = 125) : parseQ s = some ([], s.drop 2) := by
  match s, h2 with
  | c :: d :: t, _ =>
    simp at h h1
    subst h h1
    rfl
theorem parseQ_main {s : Tx} (h2 : 2 ≤ s.length) (h : s.getD 0 0 = 123) (h1 : s.getD 1 0 ≠ 125) : parseQ s = goQ 7 [] (s.drop 1) := by
  match s, h2 with
  | c :: d :: t, _ =>
    simp at h h1
    subst h
    rw [parseQ_cons, if_neg h1]
    rfl
set_option maxHeartbeats 1000000 in
theorem rparse_any (s : Tx) (w : World) (hs : s.length ≤ 4000000000) : Calls Try.prog 20 #[str s] w (MPost w (parseM s)) := by
  rw [← parseQ_eq]
  by_cases h2 : s.length < 2
  · have d2 : decide ((s.length : Int) < 2) = true := by simp; omega
    have d2' : decide (s.length < 2) = true := by simp; omega
    rw [parseQ_no0 h2]
    clear h2
    unfold str
    go_enter Try.func20, Try.ntmps20
    go_wp2
    go_ret3
    exact mpost_none (Below.refl _ _)
  · by_cases h123 : s.getD 0 0 = 123
    · by_cases h125 : s.getD 1 0 = 125
      · rw [parseQ_brace (by omega) h123 h125]
        have d2 : decide ((s.length : Int) < 2) = false := by simp; omega
        have d2' : decide (s.length < 2) = false := by simp; omega
        have hget0 := get_at (s := s) (j := 0) (by omega)
        have hget1 := get_at (s := s) (j := 1) (by omega)
        rw [h123] at hget0
        rw [h125] at hget1
        have hl0 : (0 : Int) < (s.length : Int) := by omega
        have hl1 : (1 : Int) < (s.length : Int) := by omega
        have hl0' : 0 < s.length := by omega
        have hl1' : 1 < s.length := by omega
        have e2 : (⟨s.toArray⟩ : ByteArray).extract 2 s.length = ⟨(s.drop 2).toArray⟩ := by rw [ext_str, List.take_length]
        have b2 : (2 : Int) ≤ (s.length : Int) := by omega
        clear h123 h125
        unfold str
        go_enter Try.func20, Try.ntmps20
        go_wp2
        go_quiet (fail)
        go_wp2
        go_ret3
        exact ⟨below_drewN (Below.refl _ _), _, rfl, ownM_nil _ _⟩
      · exact rparse_main s w hs (by omega) h123 h125 _ (parseQ_main (by omega) h123 h125).symm
    · have d2 : decide ((s.length : Int) < 2) = false := by simp; omega
      have d2' : decide (s.length < 2) = false := by simp; omega
      have hget0 := get_at (s := s) (j := 0) (by omega)
      have hl0 : (0 : Int) < (s.length : Int) := by omega
      have hl0' : 0 < s.length := by omega
      obtain ⟨c, hc⟩ : ∃ c, c = s.getD 0 0 := ⟨_, rfl⟩
      rw [parseQ_noc (by omega) h123]
      rw [← hc] at h123 hget0
      have t0 : ((c.toNat : Int) == 123) = false := by
        simp only [beq_eq_false_iff_ne, ne_eq]
        exact fun e => h123 (UInt8.toNat_inj.1 (show c.toNat = 123 by omega))
      have t0' : ((c.toNat : Int) != 123) = true := by
        rw [bne, t0]; rfl
      clear hc h123
      unfold str
      go_enter Try.func20, Try.ntmps20
      go_wp2
      go_ret3
      exact mpost_none (Below.refl _ _)
end Go.Proofs.Ythbdghbfhjimkaa
